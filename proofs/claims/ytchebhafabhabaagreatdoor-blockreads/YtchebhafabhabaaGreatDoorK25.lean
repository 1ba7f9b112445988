import Derived.Test.YtchebhafabhabaaGreatDoorK24
namespace Go.Proofs.YtchebhafabhabaaGreatDoor
open Go.RowKit
set_option linter.unusedVariables false

structure E3 (w : World) (D : EntD) : Prop where
 r : ∃ a n c xs, D.vr = .slice a n c ∧ n ≤ 200000 ∧ Own w 0 (.slice a n c) n xs
 q : ∃ a n c xs, D.vq = .slice a n c ∧ n ≤ 200000 ∧ Own w 0 (.slice a n c) n xs
 v : ∃ a n c xs, D.vv = .slice a n c ∧ n ≤ 200000 ∧ Own w 0 (.slice a n c) n xs
 rq : ∀ k, D.vr.ownBlock = some k → D.vq.ownBlock ≠ some k
 rv : ∀ k, D.vr.ownBlock = some k → D.vv.ownBlock ≠ some k
 qv : ∀ k, D.vq.ownBlock = some k → D.vv.ownBlock ≠ some k
def EntD.blk (D : EntD) (k : Nat) : Prop := D.vr.ownBlock = some k ∨ D.vq.ownBlock = some k ∨ D.vv.ownBlock = some k
theorem E3.lt {w : World} {D : EntD} (h : E3 w D) : ∀ k, D.blk k → k < w.heap.size := by
 rintro k (e | e | e)
 ·obtain ⟨a, n, c, xs, e2, -, o⟩ := h.r; exact (o.2.lt k (e2 ▸ e)).2
 ·obtain ⟨a, n, c, xs, e2, -, o⟩ := h.q; exact (o.2.lt k (e2 ▸ e)).2
 ·obtain ⟨a, n, c, xs, e2, -, o⟩ := h.v; exact (o.2.lt k (e2 ▸ e)).2
theorem Own.fbF {w w' : World} {B m : Nat} {u : Value} {xs : List Nat} {X : Nat → Prop} (ho : Own w B u m xs) (f : Fb w w' X) (h : ∀ k, u.ownBlock = some k → ¬ X k) : Own w' B u m xs := ⟨ho.1, row_same ho.2 (fun k hk => f.block k (ho.2.lt k hk).2 (h k hk))⟩
theorem EBox.fbF {w w' : World} {g : Nat} {e : EntD} {X : Nat → Prop} (h : EBox w g e) (f : Fb w w' X) (k : ¬ X g) : EBox w' g e := (f.block g (Array.getElem?_eq_some_iff.1 h).1 k).trans h
set_option maxRecDepth 100000 in
set_option maxHeartbeats 4000000 in
theorem fentry_any {w : World} {g : Nat} {FO : Nat → Prop} {D : EntD} (hf : FuB w g FO) (hD : E3 w D) (hb : ∀ k, D.blk k → ¬ FO k) :
  Calls Tryz.prog 14 #[.pointer (some ⟨g, 0, none⟩), .agg D.cells] w fun e w' => (∃ v, e = .returned v) ∧ FuB w' g (fun k => FO k ∨ D.blk k ∨ (w.heap.size ≤ k ∧ k < w'.heap.size)) ∧ Fb w w' (fun k => FO k ∨ D.blk k) := by
 have hlt := hD.lt
 have hFl := hf.lt
 obtain ⟨⟨ar, nr, cr, xr, er, hnr, hor⟩, ⟨aq, nq, cq, xq, eq, hnq, hoq⟩, ⟨av, nv, cv, xv, ev, hnv, hov⟩, rq, rv, qv⟩ := hD
 have A0 := (Below.refl w.heap.size w).alloc (Nat.le_refl _) (.cells D.cells 40)
 have bx0 := EBox.new w D
 have sX : (w.alloc (.cells D.cells 40)).heap.size = w.heap.size + 1 := by simp
 obtain ⟨X0, hX0⟩ : ∃ X, X = w.alloc (.cells D.cells 40) := ⟨_, rfl⟩
 rw [← hX0] at A0 bx0 sX
 have HX0 := Lib.hid hX0
 have HB0 := Lib.hid A0
 have hf0 := hf.later A0
 have T1 := take_any hf0 (hor.later A0) (fun k hk => hb k (.inl (er ▸ hk))) hnr
 have HT1 := Lib.hid T1
 have HA := Lib.hid (And.intro A0 (And.intro bx0 (And.intro (hoq.later A0) (hov.later A0))))
 have HS := Lib.hid (And.intro hlt (And.intro hFl (And.intro hb (And.intro rq (And.intro rv qv)))))
 obtain ⟨vr, fam, vq, ts, seq, kind, vv, row, qual, val⟩ := D
 simp only at er eq ev
 subst er eq ev
 clear T1 hf0 hor hoq hov hlt hFl hb rq rv qv hX0
 have c0 := bx0.vr
 clear bx0
 simp only [EntD.cells] at *
 go_enter Tryz.func14, Tryz.ntmps14
 go_wp2_with fail
 rw [← HX0.out]
 refine HT1.out.mono ?_
 rintro e X1 ⟨⟨v1, rfl⟩, f1, k1⟩
 have bx1 : EBox X1 w.heap.size ⟨.slice ar nr cr, fam, .slice aq nq cq, ts, seq, kind, .slice av nv cv, row, qual, val⟩ := HA.out.2.1.fbF k1 (by
  rintro (e | e)
  ·have := HS.out.2.1 _ e; omega
  ·have := HS.out.1 _ (.inl e); omega)
 have oq1 := HA.out.2.2.1.fbF k1 (fun k hk => by
  rintro (e | e)
  ·exact HS.out.2.2.1 k (.inr (.inl hk)) e
  ·exact HS.out.2.2.2.1 k e hk)
 have ov1 := HA.out.2.2.2.fbF k1 (fun k hk => by
  rintro (e | e)
  ·exact HS.out.2.2.1 k (.inr (.inr hk)) e
  ·exact HS.out.2.2.2.2.1 k e hk)
 have HT2 := Lib.hid (take_any f1 oq1 (fun k hk => by
  rintro (e | e | e)
  ·exact HS.out.2.2.1 k (.inr (.inl hk)) e
  ·exact HS.out.2.2.2.1 k e hk
  ·have := HS.out.1 k (.inr (.inl hk)); omega) hnq)
 have c2 := bx1.vq
 have HA1 := Lib.hid (And.intro bx1 (And.intro ov1 k1))
 clear bx1 oq1 ov1 k1 f1 HT1 HA c0 HX0
 simp only at c2
 go_wp2_with fail
 refine HT2.out.mono ?_
 rintro e X2 ⟨⟨v2, rfl⟩, f2, k2⟩
 have hs1 : w.heap.size + 1 ≤ X1.heap.size := by have := HA1.out.2.2.size; omega
 have bx2 := HA1.out.1.fbF k2 (by
  rintro ((e | e | e) | e)
  ·have := HS.out.2.1 _ e; omega
  ·have := HS.out.1 _ (.inl e); omega
  ·omega
  ·have := HS.out.1 _ (.inr (.inl e)); omega)
 have ov2 := HA1.out.2.1.fbF k2 (fun k hk => by
  rintro ((e | e | e) | e)
  ·exact HS.out.2.2.1 k (.inr (.inr hk)) e
  ·exact HS.out.2.2.2.2.1 k e hk
  ·have := HS.out.1 k (.inr (.inr hk)); omega
  ·exact HS.out.2.2.2.2.2 k e hk)
 have HT3 := Lib.hid (take_any f2 ov2 (fun k hk => by
  rintro ((e | e | e) | e | e)
  ·exact HS.out.2.2.1 k (.inr (.inr hk)) e
  ·exact HS.out.2.2.2.2.1 k e hk
  ·have := HS.out.1 k (.inr (.inr hk)); omega
  ·exact HS.out.2.2.2.2.2 k e hk
  ·have := HS.out.1 k (.inr (.inr hk)); omega) hnv)
 have c6 := bx2.vv
 have HA2 := Lib.hid (And.intro HA1.out.2.2 k2)
 clear bx2 ov2 k2 f2 HT2 HA1 c2
 simp only at c6
 go_wp2_with fail
 refine HT3.out.mono ?_
 rintro e X3 ⟨⟨v3, rfl⟩, f3, k3⟩
 have HEnd := Lib.hid (And.intro f3 k3)
 clear f3 k3 HT3 c6
 go_wp2
 refine bodyPost_end (results_none rfl _ _ _) rfl ?_
 obtain ⟨f3, k3⟩ := HEnd.out
 obtain ⟨k1, k2⟩ := HA2.out
 have hs12 := k2.size
 have hs23 := k3.size
 refine ⟨⟨_, rfl⟩, f3.more ?_ ?_, ?_⟩
 ·rintro i (((e | e | e) | e | e) | e | e)
  ·exact .inl e
  ·exact .inr (.inl (.inl e))
  ·exact .inr (.inr ⟨by omega, by omega⟩)
  ·exact .inr (.inl (.inr (.inl e)))
  ·exact .inr (.inr ⟨by omega, by omega⟩)
  ·exact .inr (.inl (.inr (.inr e)))
  ·exact .inr (.inr ⟨by omega, by omega⟩)
 ·rintro i (e | e | e)
  ·have := HS.out.2.1 i e; omega
  ·have := HS.out.1 i e; omega
  ·exact e.2
 ·have m0 : Fb w X0 (fun k => FO k ∨ EntD.blk ⟨.slice ar nr cr, fam, .slice aq nq cq, ts, seq, kind, .slice av nv cv, row, qual, val⟩ k ∨ w.heap.size ≤ k) := Fb.of_below HB0.out
  have m1 := m0.trans (k1.mono (fun i _ e => by
   rcases e with e | e
   ·exact .inl e
   ·exact .inr (.inl (.inl e))))
  have m2 := m1.trans (k2.mono (fun i _ e => by
   rcases e with (e | e | e) | e
   ·exact .inl e
   ·exact .inr (.inl (.inl e))
   ·exact .inr (.inr (by omega))
   ·exact .inr (.inl (.inr (.inl e)))))
  have m3 := m2.trans (k3.mono (fun i _ e => by
   rcases e with ((e | e | e) | e | e) | e
   ·exact .inl e
   ·exact .inr (.inl (.inl e))
   ·exact .inr (.inr (by omega))
   ·exact .inr (.inl (.inr (.inl e)))
   ·exact .inr (.inr (by omega))
   ·exact .inr (.inl (.inr (.inr e)))))
  refine m3.mono (fun i hi e => ?_)
  rcases e with e | e | e
  ·exact .inl e
  ·exact .inr e
  ·omega
end Go.Proofs.YtchebhafabhabaaGreatDoor

namespace Go.Proofs.YtchebhafabhabaaGreatDoor
open Go.RowKit
set_option linter.unusedVariables false

theorem below_drewF {B : Nat} {a w : World} (h : Below B a w) (n : Nat) : Below B a (w.drewN n) := ⟨h.os, h.tape, h.output, h.size, h.block⟩
set_option maxRecDepth 100000 in
set_option maxHeartbeats 4000000 in
theorem whole_any {w : World} {g : Nat} {FO : Nat → Prop} (hf : FuB w g FO) :
  Calls Tryz.prog 16 #[.pointer (some ⟨g, 0, none⟩)] w fun e w' => e = .returned (.bool true) ∧ Below w.heap.size w w' := by
 obtain ⟨O, aL, nL, cL, aM, cM, N, vs, ms, h, -, -, -, -, -⟩ := hf
 have HC : Hid (∀ wr, Below w.heap.size w wr → wr.cell? ⟨g, 0, none⟩ = some (.slice aL nL cL) ∧ wr.cell? ⟨g, 1, none⟩ = some (.slice aM nL cM)) := fun wr b => by
  have hg := (Array.getElem?_eq_some_iff.1 h.box).1
  exact ⟨(b.cell (p := ⟨g, 0, none⟩) hg).trans h.cells.1, (b.cell (p := ⟨g, 1, none⟩) hg).trans h.cells.2.1⟩
 have hnL : nL ≤ 80000 := by have := h.few; omega
 have HL : Hid (∀ t, t < nL → ∃ (gL gM : Nat) (an : Option Addr) (n c m : Nat), aL = some ⟨gL, 0, none⟩ ∧ aM = some ⟨gM, 0, none⟩ ∧ n ≤ 140737488355328 ∧ m < 256 ∧ (∀ wr, Below w.heap.size w wr → wr.cell? ⟨gL, t, none⟩ = some (.slice an n c) ∧ wr.cell? ⟨gM, t, none⟩ = some (.int .u8 (m : Int))) ∧ ∀ q, q < n → ∃ b, an = some ⟨b, 0, none⟩ ∧ ∀ wr, Below w.heap.size w wr → wr.cell? ⟨b, q, none⟩ = some (.int .u8 (m : Int))) := fun t ht => by
  have hml : ms.length = nL := h.own.1.symm
  obtain ⟨m, hm⟩ : ∃ m, ms[t]? = some m := ⟨_, List.getElem?_eq_getElem (by omega)⟩
  obtain ⟨v, hv⟩ : ∃ v, vs[t]? = some v := ⟨_, List.getElem?_eq_getElem (by have := h.len; omega)⟩
  obtain ⟨an, n, c, rfl, hn, hk⟩ := h.marks t v m hv hm
  have hgL : ∃ gL, aL = some ⟨gL, 0, none⟩ := by
   rcases h.row.2 with ⟨h1, h0⟩ | ⟨gL, cap, cur, h1, -⟩
   ·omega
   ·simp only [Value.slice.injEq] at h1; exact ⟨gL, h1.1⟩
  obtain ⟨gL, rfl⟩ := hgL
  have hgM : ∃ gM, aM = some ⟨gM, 0, none⟩ := by
   rcases h.own.2.2 with ⟨h1, h0⟩ | ⟨gM, cap, cur, h1, -⟩
   ·omega
   ·simp only [Value.slice.injEq] at h1; exact ⟨gM, h1.1⟩
  obtain ⟨gM, rfl⟩ := hgM
  have e1 : w.cell? ⟨gL, t, none⟩ = some (.slice an n c) := (h.row.cellAt t (by have := h.len; omega)).trans hv
  have e2 : w.cell? ⟨gM, t, none⟩ = some (.int .u8 (m : Int)) := by
   rw [h.own.2.cellAt t (by omega)]
   simp [bv, hm]
  refine ⟨gL, gM, an, n, c, m, rfl, rfl, hn, h.bys m (List.mem_of_getElem? hm), fun wr b => ⟨(b.cell (World.block_lt_of_cell? _ _ e1)).trans e1, (b.cell (World.block_lt_of_cell? _ _ e2)).trans e2⟩, fun q hq => ?_⟩
  rcases hk with hk | ⟨b, rfl, -, hc⟩
  ·omega
  ·exact ⟨b, rfl, fun wr bl => (bl.cell (World.block_lt_of_cell? _ _ (hc q hq))).trans (hc q hq)⟩
 clear h
 go_enter Tryz.func16, Tryz.ntmps16
 go_wp2
 go_loopw [3, 4] (fun i k wr => ∃ t : Nat, t ≤ nL ∧ i = .int .i64 (t : Int) ∧ Below w.heap.size w wr) (fun i _ _ => nL - (intOf i).toNat)
 case atStart => exact ⟨0, by omega, rfl, Below.refl _ _⟩
 case round =>
  obtain ⟨t, ht, rfl, hbk⟩ := hrel
  obtain ⟨k0, k1⟩ := HC.out wr hbk
  by_cases h1 : t < nL
  ·have h1' : (t : Int) < (nL : Int) := by omega
   have ht0 : (0 : Int) ≤ (t : Int) := by omega
   obtain ⟨gL, gM, an, n, c, m, rfl, rfl, hn, hm, hc, hq⟩ := HL.out t h1
   have HQ := Lib.hid hq
   have HCc := Lib.hid hc
   clear hq hc
   go_wp2
   go_loopw [4] (fun k wz => ∃ q : Nat, q ≤ n ∧ k = .int .i64 (q : Int) ∧ Below w.heap.size w wz) (fun k _ => n - (intOf k).toNat)
   case atStart => exact ⟨0, by omega, rfl, hbk⟩
   case round =>
    obtain ⟨q, hqn, rfl, hbz⟩ := hrel
    clear k0 k1
    obtain ⟨k0, k1⟩ := HC.out wr hbz
    obtain ⟨l0, l1⟩ := HCc.out wr hbz
    by_cases h2 : q < n
    ·have h2' : (q : Int) < (n : Int) := by omega
     have hq0 : (0 : Int) ≤ (q : Int) := by omega
     obtain ⟨b, rfl, hcb⟩ := HQ.out q h2
     have cb := hcb wr hbz
     clear hcb
     go_wp2
     go_quiet (fail)
     go_wp2
     go_roundw
     case rel => exact ⟨q + 1, by omega, by go_num, below_drewF hbz _⟩
     case measure => simp [intOf]; omega
    ·have h2' : ¬ (q : Int) < (n : Int) := by omega
     go_wp2
     go_roundw
     case rel => exact ⟨t + 1, by omega, by go_num, hbz⟩
     case measure => simp [intOf]; omega
  ·have h1' : ¬ (t : Int) < (nL : Int) := by omega
   go_wp2
   go_ret
   exact ⟨rfl, hbk⟩
end Go.Proofs.YtchebhafabhabaaGreatDoor

namespace Go.Proofs.YtchebhafabhabaaGreatDoor
open Go.RowKit Go.Shelf
set_option linter.unusedVariables false

structure RX (w : World) (I : Nat → Prop) (s5 s6 s9 s11 s13 gF : Nat) (stop : Int) (g r b ne ce np cp : Nat) (E P : List Nat) (bz oz cap : Nat) (zs : List EntD) : Prop where
 hL : Blad r (kvL zs) E P
 hk : Lk w 0 g r (kvL zs).length b ne ce E P np cp
 hr : RdL5 w (some ⟨bz, oz, none⟩) cap zs
 ck : ∀ e ∈ zs, checkS e = 0
 ig : I g
 ib : I b
 ia : ∀ k, adB (some ⟨bz, oz, none⟩) k → I k
 ie : ∀ e ∈ zs, ∀ k, e.adr k → I k
 c5 : Cell1B w s5 (.int .i64 stop) 3
 c6 : Cell1B w s6 (.bool false) 4
 c9 : Cell1B w s9 (.pointer (some ⟨g, 0, none⟩)) 58
 c11 : Cell1B w s11 (.slice (some ⟨bz, oz, none⟩) zs.length cap) 22
 c13 : Cell1B w s13 (.pointer (some ⟨gF, 0, none⟩)) 34
 i5 : I s5
 i6 : I s6
 i9 : I s9
 i11 : I s11
 i13 : I s13
theorem RX.fb {w w' : World} {I O : Nat → Prop} {s5 s6 s9 s11 s13 gF g r b ne ce np cp bz oz cap : Nat} {stop : Int} {E P : List Nat} {zs : List EntD} (h : RX w I s5 s6 s9 s11 s13 gF stop g r b ne ce np cp E P bz oz cap zs) (f : Fb w w' O) (hn : ∀ k, I k → ¬ O k) : RX w' I s5 s6 s9 s11 s13 gF stop g r b ne ce np cp E P bz oz cap zs :=
 ⟨h.hL, ⟨h.hk.box.fb f (hn _ h.ig), h.hk.ents.fb f (hn _ h.ib), h.hk.pls.fb f (hn _ h.ib), h.hk.bg, h.hk.bb, h.hk.ne⟩, h.hr.fbV f (fun k hk => hn k (h.ia k hk)) (fun D hD k hk => hn k (h.ie D hD k hk)), h.ck, h.ig, h.ib, h.ia, h.ie, h.c5.fb f (hn _ h.i5), h.c6.fb f (hn _ h.i6), h.c9.fb f (hn _ h.i9), h.c11.fb f (hn _ h.i11), h.c13.fb f (hn _ h.i13), h.i5, h.i6, h.i9, h.i11, h.i13⟩
theorem RX.later {w w' : World} {I : Nat → Prop} {s5 s6 s9 s11 s13 gF g r b ne ce np cp bz oz cap : Nat} {stop : Int} {E P : List Nat} {zs : List EntD} (h : RX w I s5 s6 s9 s11 s13 gF stop g r b ne ce np cp E P bz oz cap zs) (bl : Below w.heap.size w w') : RX w' I s5 s6 s9 s11 s13 gF stop g r b ne ce np cp E P bz oz cap zs := h.fb (O := fun _ => False) (Fb.of_below bl) (fun _ _ h => h)
structure RI (V X : World) (gF gi : Nat) (FO0 : Nat → Prop) (n : Nat) (FO : Nat → Prop) : Prop where
 fu : FuB X gF FO
 i_ : Cell1B X gi (.int .i64 (n : Int)) 3
 fb : Fb V X (fun k => FO0 k ∨ k = gi)
 new : ∀ k, FO k → FO0 k ∨ V.heap.size + 2 ≤ k
theorem RI.st {V X Y : World} {gF gi n : Nat} {FO0 FO C : Nat → Prop} (h : RI V X gF gi FO0 n FO) (f : Fb X Y C) (hc : ∀ k, k < X.heap.size → FO k ∨ k = gi → ¬ C k) (hV : ∀ k, C k → V.heap.size ≤ k) : RI V Y gF gi FO0 n FO :=
 ⟨h.fu.fb f (fun k hk ho => hc k (h.fu.lt k ho) (.inl ho) hk), h.i_.fb f (hc gi h.i_.lt (.inr rfl)), h.fb.trans' f h.fb.size (fun i hi hC => by have := hV i hC; omega), h.new⟩
theorem RI.later {V X Y : World} {gF gi n : Nat} {FO0 FO : Nat → Prop} (h : RI V X gF gi FO0 n FO) (b : Below X.heap.size X Y) : RI V Y gF gi FO0 n FO := h.st (C := fun _ => False) (Fb.of_below b) (fun _ _ _ h => h) (fun _ h => h.elim)
theorem RI.grow {V X Y : World} {gF gi n : Nat} {FO0 FO : Nat → Prop} {D : EntD} (h : RI V X gF gi FO0 n FO) (hX : V.heap.size + 2 ≤ X.heap.size) (hf : FuB Y gF (fun k => FO k ∨ D.blk k ∨ (X.heap.size ≤ k ∧ k < Y.heap.size))) (f : Fb X Y (fun k => FO k ∨ D.blk k)) (hx : ∀ k, D.blk k → V.heap.size + 2 ≤ k) (hgi : gi < V.heap.size) (hF : ¬ FO0 gi) : RI V Y gF gi FO0 n (fun k => FO k ∨ D.blk k ∨ (X.heap.size ≤ k ∧ k < Y.heap.size)) := by
 refine ⟨hf, h.i_.fb f ?_, h.fb.trans' f h.fb.size ?_, ?_⟩
 ·rintro (k | k)
  ·rcases h.new _ k with k | k
   ·exact hF k
   ·omega
  ·have := hx _ k; omega
 ·rintro i hi (k | k)
  ·rcases h.new _ k with k | k
   ·exact .inl k
   ·omega
  ·have := hx _ k; omega
 ·rintro k (h1 | h1 | h1)
  ·exact h.new k h1
  ·exact .inr (hx k h1)
  ·exact .inr (by omega)
theorem RI.seti {V X : World} {gF gi n m : Nat} {FO0 FO : Nat → Prop} (h : RI V X gF gi FO0 n FO) (hgi : gi < V.heap.size) (hF : ¬ FO0 gi) : RI V (X.setCell ⟨gi, 0, none⟩ (.int .i64 (m : Int))) gF gi FO0 m FO :=
 ⟨h.fu.fb (Fb.set1 (O := fun k => k = gi) rfl _) (fun k e ho => by
  rcases h.new _ ho with k1 | k1
  ·rw [e] at k1; exact hF k1
  ·omega), h.i_.set _, h.fb.trans (Fb.set1 (.inr rfl) _), h.new⟩
theorem RI.rx {V X : World} {gF gi n : Nat} {FO0 FO I : Nat → Prop} {s5 s6 s9 s11 s13 g r b ne ce np cp bz oz cap : Nat} {stop : Int} {E P : List Nat} {zs : List EntD} (h : RI V X gF gi FO0 n FO) (k : RX V I s5 s6 s9 s11 s13 gF stop g r b ne ce np cp E P bz oz cap zs) (hI : ∀ k, I k → ¬ FO0 k ∧ k ≠ gi) : RX X I s5 s6 s9 s11 s13 gF stop g r b ne ce np cp E P bz oz cap zs :=
 k.fb h.fb (fun j hj e => by rcases e with e | e; exact (hI j hj).1 e; exact (hI j hj).2 e)
theorem RI.ob {V X : World} {gF gi n : Nat} {FO0 FO : Nat → Prop} (h : RI V X gF gi FO0 n FO) (h0 : ∀ k, FO0 k → k < V.heap.size) (hgi : gi < V.heap.size) {k : Nat} (ho : FO k ∨ k = gi) : k < X.heap.size ∧ k ≠ V.heap.size ∧ k ≠ V.heap.size + 1 ∧ ∀ j, ¬ FO0 j → j ≠ gi → j < V.heap.size → k ≠ j := by
 rcases ho with ho | ho
 ·refine ⟨h.fu.lt k ho, ?_⟩
  rcases h.new k ho with h1 | h1
  ·have := h0 k h1
   exact ⟨by omega, by omega, fun j hj _ _ e => hj (e ▸ h1)⟩
  ·exact ⟨by omega, by omega, fun j _ _ hj => by omega⟩
 ·subst ho
  exact ⟨h.i_.lt, by omega, by omega, fun j _ hj _ e => hj e.symm⟩
theorem own_0 {w : World} {B n : Nat} {v : Value} {xs : List Nat} (h : Own w B v n xs) (hn : n ≤ 200000) : ∃ a m c ys, v = .slice a m c ∧ m ≤ 200000 ∧ Own w 0 (.slice a m c) m ys := by
 obtain ⟨a, c, rfl⟩ := own_form h.2
 exact ⟨a, n, c, xs, rfl, hn, h.mono (Nat.zero_le _)⟩
theorem e3_of {w : World} {B : Nat} {x : EntD} (hc : checkS x = 0) (h1 : Own w B x.vr x.row.length x.row) (h2 : Own w B x.vq x.qual.length x.qual) (h3 : Own w B x.vv x.val.length x.val) (ha : Ap3 x) : E3 w x := by
 have hl : x.row.length ≤ 256 ∧ x.qual.length ≤ 256 ∧ x.val.length ≤ 4096 := by
  unfold checkS at hc
  repeat' split at hc
  all_goals first | omega | skip
 exact ⟨own_0 h1 (by omega), own_0 h2 (by omega), own_0 h3 (by omega), ha.1, ha.2.1, ha.2.2⟩
theorem YGF.e3 {l : List (List Nat × List Nat)} {B0 : Nat} {C : Nat → Prop} {pre : List EntD} {x : EntD} {W : World} (h : YGF l B0 C pre x W) : E3 W x := by
 obtain ⟨⟨h1, h2, h3⟩, Bq, k1, k2, k3, k4, k5, k6⟩ := h
 exact e3_of h3 k3 k4 k5 k6
theorem new1 (X : World) (v : Value) (t : Nat) : ∃ Y, Y = X.alloc (.cells #[v] t) ∧ Below X.heap.size X Y ∧ Y.heap.size = X.heap.size + 1 ∧ Cell1B Y X.heap.size v t := ⟨_, rfl, (Below.refl _ _).alloc (Nat.le_refl _) _, by simp, heap_alloc_new X _⟩
theorem two_reads (W : World) (z : Int) : ∃ X, X = (W.alloc (.cells #[.int .i64 z] 3)).alloc (.cells #[.bool false] 4) ∧ Below W.heap.size W X ∧ X.heap.size = W.heap.size + 2 ∧ Cell1B X W.heap.size (.int .i64 z) 3 ∧ Cell1B X (W.heap.size + 1) (.bool false) 4 := by
 refine ⟨_, rfl, ((Below.refl W.heap.size W).alloc (Nat.le_refl _) _).alloc (by simp) _, by simp, Cell1B.later (heap_alloc_new W _) ((Below.refl _ _).alloc (Nat.le_refl _) _), ?_⟩
 have := heap_alloc_new (W.alloc (.cells #[.int .i64 z] 3)) (.cells #[.bool false] 4)
 rwa [World.size_alloc] at this
theorem laid_own {w : World} {B : Nat} {u : Value} {bs : List Nat} (h : Laid w B u bs) : ∃ g c, u = .slice (some ⟨g, 0, none⟩) bs.length c ∧ Own w B (.slice (some ⟨g, 0, none⟩) bs.length c) bs.length bs := by
 obtain ⟨g, c, rfl, h2, h3, o⟩ := h
 refine ⟨g, c, rfl, ?_⟩
 have o1 := o.take (show bs.length ≤ bs.length + 75 by omega)
 rw [List.append_assoc, List.take_left] at o1
 exact o1
end Go.Proofs.YtchebhafabhabaaGreatDoor

namespace Go.Proofs.YtchebhafabhabaaGreatDoor
open Go.RowKit Go.Shelf
set_option linter.unusedVariables false

def noDefer (ops : Array Oper) : Bool := ops.toList.all fun o => match o.op with | .defer _ => false | _ => true
theorem noDefer_spec {ops : Array Oper} (h : noDefer ops = true) {i : Nat} {o : Oper} (ho : ops[i]? = some o) : ∀ c, o.op ≠ .defer c := by
 intro c e
 have hm : o ∈ ops.toList := List.mem_of_getElem? (i := i) (by simpa using ho)
 have := List.all_eq_true.1 h o hm
 rw [e] at this
 cases this
theorem upon_in {l n : Nat} {P : Program} {o : Oper} {a : Act} {K K' : Act → World → Prop} {Q : Exit → Act → World → Prop} (hK : ∀ a w, K a w → K' a w) : ∀ r, o.upon P a K Q r → o.uponIn (Fence.wide.inRound l) n P a K' Q r := by
 intro r h
 cases r with
 | ok nx w' =>
  cases nx with
  | value v => exact hK _ _ h
  | skip => exact hK _ _ h
  | defer d => exact hK _ _ h
  | enter f args =>
   have h' : CallsIn (Fence.wide.inRound l) (n - 1) P f args w' _ := CallsIn.inRound l (callsIn_wide.2 h)
   refine ⟨fun hh => (by cases hh), h'.mono ?_⟩
   intro e w k
   cases e with
   | returned v => exact hK _ _ k
   | panicked c => exact k
   | outgrown => exact k
  | row row args => exact ⟨fun hh => (by cases hh), fun c cs _ => let ⟨v, w', r, s⟩ := h c cs; ⟨v, w', hK _ _ r, stepsIn_wide.2 s⟩⟩
  | _ => exact h.elim
 | halt hl w' =>
  cases hl with
  | panic v => exact h
  | _ => exact h.elim
theorem opIn {l n i : Nat} {P : Program} {ops : Array Oper} {a : Act} {w : World} {K K' : Act → World → Prop} {Q : Exit → Act → World → Prop} (hd : noDefer ops = true) (hq : ¬ LetsOut Q) (hK : ∀ a w, K a w → K' a w) (h : wpOp P ops Q i K a w) : wpOpIn (Fence.wide.inRound l) n P ops Q i K' a w := by
 unfold wpOp at h
 unfold wpOpIn
 split
 ·rename_i ho
  simp only [ho] at h
  exact hK _ _ h
 ·rename_i o ho
  simp only [ho] at h
  split
  ·rename_i hw
   simp only [hw, if_true] at h
   rcases h with h | ⟨_, h⟩
   ·refine ⟨fun _ _ => trivial, ?_⟩
    have e : o.semAt (Fence.wide.inRound l).round a.eval = execOp a.eval o := Oper.semAt_some l _ _ (noDefer_spec hd ho)
    rw [e]
    exact upon_in hK _ h
   ·exact absurd h hq
  ·rename_i hw
   simp only [hw] at h
   exact ⟨fun _ _ => trivial, hK _ _ h⟩
theorem anyIn {l n : Nat} {P : Program} {md : Region.Mode} {ops : Array Oper} {Q : Exit → Act → World → Prop} (hd : noDefer ops = true) (hq : ¬ LetsOut Q) : ∀ (fuel : Nat) (listed : Array Bool) (a : Act) (w : World), wpAny P md ops Q fuel listed a w → wpAnyIn (Fence.wide.inRound l) n P md ops Q fuel listed a w
 | 0, _, _, _, h => h
 | fuel + 1, _, _, _, h => ⟨h.1, fun i hi => opIn hd hq (fun a w k => anyIn hd hq fuel _ a w k) (h.2 i hi)⟩
def nthC : Nat → Code → Code
 | 0, c => c
 | n + 1, .seq _ y => nthC n y
 | _ + 1, c => c
def fstC : Code → Code
 | .seq x _ => x
 | c => c
def inC : Code → Code
 | .block _ c => c
 | .rangeFunc _ _ _ b => b
 | .cond _ x _ => x
 | .loop c => c
 | c => c
end Go.Proofs.YtchebhafabhabaaGreatDoor

namespace Go.Proofs.YtchebhafabhabaaGreatDoor
open Go.RowKit Go.Shelf
set_option linter.unusedVariables false

set_option maxRecDepth 100000 in
set_option maxHeartbeats 8000000 in
theorem reads_r21 {l' : Nat} {X : World} {b11 b16 b17 bz oz cap mz n : Nat} {x y : EntD} {s0 s1 s2 s3 s4 s5 s6 s7 s8 s9 s10 s12 s13 s14 s15 s18 s19 s20 s21 s22 s23 s24 s25 s26 s27 s28 s29 s30 s31 s32 s33 s34 s35 s36 s37 s38 s39 s40 s41 s42 s43 s44 s45 s46 s47 s48 s49 s50 s51 s52 s53 s54 s55 s56 s57 s58 s59 s60 s61 s62 s63 s64 s65 s66 s67 s68 s69 s70 s71 s72 s73 s74 s75 s76 s77 s78 s79 s80 s81 s82 s83 s84 s85 s86 s87 s88 s89 s90 s91 s92 s93 s94 s95 s96 s97 s98 s99 s100 s101 s102 s103 s104 s105 s106 s107 s108 s109 s110 s111 s112 s113 s114 s115 s116 s117 s118 s119 s120 s121 s122 s123 s124 s125 s126 s127 s128 s129 s130 s131 s132 s133 s134 s135 s136 s137 s138 s139 s140 s141 s142 s143 s144 s145 s146 s147 s148 s149 s150 s151 s152 s153 s154 s155 s156 s157 s158 s159 s160 s161 s162 s163 s164 s165 s166 s167 s168 s169 s170 s171 s172 s173 s174 s175 s176 s177 s178 s179 s180 s181 s182 s183 s184 s185 s186 s187 s188 s189 s190 s191 s192 s193 s194 s195 s196 s197 s198 s199 s200 s201 s202 s203 s204 s205 s206 s207 s208 s209 s210 s211 s212 s213 s214 s215 s216 : Value} (hn : n < mz) (KS : ∀ wx, Below X.heap.size X wx → wx.cell? ⟨b16, 0, none⟩ = some (.int .i64 (n : Int)) ∧ wx.cell? ⟨b11, 0, none⟩ = some (.slice (some ⟨bz, oz, none⟩) mz cap) ∧ wx.cell? ⟨b17, 0, none⟩ = some x.vr ∧ wx.cell? ⟨b17, 1, none⟩ = some (.int .i64 x.fam) ∧ wx.cell? ⟨b17, 2, none⟩ = some x.vq ∧ wx.cell? ⟨b17, 3, none⟩ = some (.int .i64 x.ts) ∧ wx.cell? ⟨b17, 4, none⟩ = some (.int .i64 x.seq) ∧ wx.cell? ⟨b17, 5, none⟩ = some (.int .i64 x.kind) ∧ wx.cell? ⟨b17, 6, none⟩ = some x.vv ∧ wx.cell? ⟨bz, oz + n * 7, none⟩ = some y.vr ∧ wx.cell? ⟨bz, oz + n * 7 + 1, none⟩ = some (.int .i64 y.fam) ∧ wx.cell? ⟨bz, oz + n * 7 + 2, none⟩ = some y.vq ∧ wx.cell? ⟨bz, oz + n * 7 + 3, none⟩ = some (.int .i64 y.ts) ∧ wx.cell? ⟨bz, oz + n * 7 + 4, none⟩ = some (.int .i64 y.seq) ∧ wx.cell? ⟨bz, oz + n * 7 + 5, none⟩ = some (.int .i64 y.kind) ∧ wx.cell? ⟨bz, oz + n * 7 + 6, none⟩ = some y.vv) (hSe : ∀ Z, Below X.heap.size X Z → Calls Tryz.prog 33 #[.agg #[x.vr, .int .i64 x.fam, x.vq, .int .i64 x.ts, .int .i64 x.seq, .int .i64 x.kind, x.vv], .agg #[y.vr, .int .i64 y.fam, y.vq, .int .i64 y.ts, .int .i64 y.seq, .int .i64 y.kind, y.vv]] Z fun r w' => r = .returned (.bool true) ∧ Below Z.heap.size Z w') :
  (fstC (fstC (nthC 1 (inC (inC (inC (nthC 1 (fstC (nthC 14 ((Tryz.f4).body.getD .skip)))))))))).wpIn (Fence.wide.inRound l') 9 Tryz.prog (fun e a' w' => match e with | .normal => a' = { tmps := #[s0, s1, s2, s3, s4, s5, s6, s7, s8, s9, s10, .pointer (some ⟨b11, 0, none⟩), s12, s13, s14, s15, .pointer (some ⟨b16, 0, none⟩), .pointer (some ⟨b17, 0, none⟩), s18, s19, s20, s21, s22, s23, s24, s25, s26, s27, s28, s29, s30, s31, s32, s33, s34, s35, s36, s37, s38, s39, s40, s41, s42, s43, s44, s45, s46, s47, s48, s49, s50, s51, s52, s53, s54, s55, s56, s57, s58, s59, s60, s61, s62, s63, s64, s65, s66, s67, s68, s69, s70, s71, s72, s73, s74, s75, s76, s77, s78, s79, s80, s81, s82, s83, s84, s85, s86, s87, s88, s89, s90, s91, s92, s93, s94, s95, .int .i64 (n : Int), .slice (some ⟨bz, oz, none⟩) mz cap, .int .i64 (mz : Int), .bool false, .bool false, .agg #[x.vr, .int .i64 x.fam, x.vq, .int .i64 x.ts, .int .i64 x.seq, .int .i64 x.kind, x.vv], .slice (some ⟨bz, oz, none⟩) mz cap, .int .i64 (n : Int), .pointer (some ⟨bz, oz + n * 7, none⟩), .agg #[y.vr, .int .i64 y.fam, y.vq, .int .i64 y.ts, .int .i64 y.seq, .int .i64 y.kind, y.vv], .bool true, .bool false, .bool false, s109, s110, s111, s112, s113, s114, s115, s116, s117, s118, s119, s120, s121, s122, s123, s124, s125, s126, s127, s128, s129, s130, s131, s132, s133, s134, s135, s136, s137, s138, s139, s140, s141, s142, s143, s144, s145, s146, s147, s148, s149, s150, s151, s152, s153, s154, s155, s156, s157, s158, s159, s160, s161, s162, s163, s164, s165, s166, s167, s168, s169, s170, s171, s172, s173, s174, s175, s176, s177, s178, s179, s180, s181, s182, s183, s184, s185, s186, s187, s188, s189, s190, s191, s192, s193, s194, s195, s196, s197, s198, s199, s200, s201, s202, s203, s204, s205, s206, s207, s208, s209, s210, s211, s212, s213, s214, s215, s216], defers := [] } ∧ Below X.heap.size X w' | _ => False) { tmps := #[s0, s1, s2, s3, s4, s5, s6, s7, s8, s9, s10, .pointer (some ⟨b11, 0, none⟩), s12, s13, s14, s15, .pointer (some ⟨b16, 0, none⟩), .pointer (some ⟨b17, 0, none⟩), s18, s19, s20, s21, s22, s23, s24, s25, s26, s27, s28, s29, s30, s31, s32, s33, s34, s35, s36, s37, s38, s39, s40, s41, s42, s43, s44, s45, s46, s47, s48, s49, s50, s51, s52, s53, s54, s55, s56, s57, s58, s59, s60, s61, s62, s63, s64, s65, s66, s67, s68, s69, s70, s71, s72, s73, s74, s75, s76, s77, s78, s79, s80, s81, s82, s83, s84, s85, s86, s87, s88, s89, s90, s91, s92, s93, s94, s95, s96, s97, s98, s99, s100, s101, s102, s103, s104, s105, s106, s107, s108, s109, s110, s111, s112, s113, s114, s115, s116, s117, s118, s119, s120, s121, s122, s123, s124, s125, s126, s127, s128, s129, s130, s131, s132, s133, s134, s135, s136, s137, s138, s139, s140, s141, s142, s143, s144, s145, s146, s147, s148, s149, s150, s151, s152, s153, s154, s155, s156, s157, s158, s159, s160, s161, s162, s163, s164, s165, s166, s167, s168, s169, s170, s171, s172, s173, s174, s175, s176, s177, s178, s179, s180, s181, s182, s183, s184, s185, s186, s187, s188, s189, s190, s191, s192, s193, s194, s195, s196, s197, s198, s199, s200, s201, s202, s203, s204, s205, s206, s207, s208, s209, s210, s211, s212, s213, s214, s215, s216], defers := [] } X := by
 have hn1 : (n : Int) < (mz : Int) := by omega
 have hn0 : (0 : Int) ≤ (n : Int) := by omega
 have d1 : decide ((mz : Int) ≤ (n : Int)) = false := by simp; omega
 have d2 : decide (mz ≤ n) = false := by simp; omega
 have hmz0 : (0 : Int) < (mz : Int) := by omega
 have D0 : Below X.heap.size X X.drew := (Below.refl _ _).drew
 have HKS := Lib.hid KS
 have HSe := Lib.hid hSe
 clear KS hSe
 show Code.wpIn _ _ _ (Code.region 21 _ true) _ _ _
 refine wpIn_region_any (by kernel_rfl) (anyIn (by kernel_rfl) (fun ⟨_, _, h⟩ => h) _ _ _ _ (wpAny_of_held (S := fun wx => wx.cell? ⟨b16, 0, none⟩ = some (.int .i64 (n : Int)) ∧ wx.cell? ⟨b11, 0, none⟩ = some (.slice (some ⟨bz, oz, none⟩) mz cap) ∧ wx.cell? ⟨b17, 0, none⟩ = some x.vr ∧ wx.cell? ⟨b17, 1, none⟩ = some (.int .i64 x.fam) ∧ wx.cell? ⟨b17, 2, none⟩ = some x.vq ∧ wx.cell? ⟨b17, 3, none⟩ = some (.int .i64 x.ts) ∧ wx.cell? ⟨b17, 4, none⟩ = some (.int .i64 x.seq) ∧ wx.cell? ⟨b17, 5, none⟩ = some (.int .i64 x.kind) ∧ wx.cell? ⟨b17, 6, none⟩ = some x.vv ∧ wx.cell? ⟨bz, oz + n * 7, none⟩ = some y.vr ∧ wx.cell? ⟨bz, oz + n * 7 + 1, none⟩ = some (.int .i64 y.fam) ∧ wx.cell? ⟨bz, oz + n * 7 + 2, none⟩ = some y.vq ∧ wx.cell? ⟨bz, oz + n * 7 + 3, none⟩ = some (.int .i64 y.ts) ∧ wx.cell? ⟨bz, oz + n * 7 + 4, none⟩ = some (.int .i64 y.seq) ∧ wx.cell? ⟨bz, oz + n * 7 + 5, none⟩ = some (.int .i64 y.kind) ∧ wx.cell? ⟨bz, oz + n * 7 + 6, none⟩ = some y.vv) _ _ _ _ ?_))
 change wpAnyH _ _ _ _ _ _ _ _ (World.drew _)
 have hHeld := HKS.out _ D0
 refine wpAnyH_take (i := 0) (oi := { dst := some 96, op := _, type := _, pos := _, after := _, guard := _ }) (v := .int .i64 (n : Int)) rfl (by kernel_rfl) (by kernel_rfl) (by kernel_rfl) (fun _ _ _ h => h) (Or.inl ⟨by kernel_rfl, fun wy hy => by (obtain ⟨y0, y1, y2, y3, y4, y5, y6, y7, y8, y9, y10, y11, y12, y13, y14, y15⟩ := hy; go_simp; first | done | omega)⟩) hHeld ?_
 try simp only [Act.put, List.setIfInBounds_toArray, List.set_cons_zero, List.set_cons_succ]
 refine wpAnyH_take (i := 1) (oi := { dst := some 97, op := _, type := _, pos := _, after := _, guard := _ }) (v := .slice (some ⟨bz, oz, none⟩) mz cap) rfl (by kernel_rfl) (by kernel_rfl) (by kernel_rfl) (fun _ _ _ h => h) (Or.inl ⟨by kernel_rfl, fun wy hy => by (obtain ⟨y0, y1, y2, y3, y4, y5, y6, y7, y8, y9, y10, y11, y12, y13, y14, y15⟩ := hy; go_simp; first | done | omega)⟩) hHeld ?_
 try simp only [Act.put, List.setIfInBounds_toArray, List.set_cons_zero, List.set_cons_succ]
 refine wpAnyH_take (i := 2) (oi := { dst := some 98, op := _, type := _, pos := _, after := _, guard := _ }) (v := .int .i64 (mz : Int)) rfl (by kernel_rfl) (by kernel_rfl) (by kernel_rfl) (fun _ _ _ h => h) (Or.inl ⟨by kernel_rfl, fun wy hy => by (obtain ⟨y0, y1, y2, y3, y4, y5, y6, y7, y8, y9, y10, y11, y12, y13, y14, y15⟩ := hy; go_simp; first | done | omega)⟩) hHeld ?_
 try simp only [Act.put, List.setIfInBounds_toArray, List.set_cons_zero, List.set_cons_succ]
 refine wpAnyH_take (i := 3) (oi := { dst := some 99, op := _, type := _, pos := _, after := _, guard := _ }) (v := .bool false) rfl (by kernel_rfl) (by kernel_rfl) (by kernel_rfl) (fun _ _ _ h => h) (Or.inl ⟨by kernel_rfl, fun wy hy => by (obtain ⟨y0, y1, y2, y3, y4, y5, y6, y7, y8, y9, y10, y11, y12, y13, y14, y15⟩ := hy; go_simp; first | done | omega)⟩) hHeld ?_
 try simp only [Act.put, List.setIfInBounds_toArray, List.set_cons_zero, List.set_cons_succ]
 refine wpAnyH_take (i := 4) (oi := { dst := some 100, op := _, type := _, pos := _, after := _, guard := _ }) (v := .bool false) rfl (by kernel_rfl) (by kernel_rfl) (by kernel_rfl) (fun _ _ _ h => h) (Or.inl ⟨by kernel_rfl, fun wy hy => by (obtain ⟨y0, y1, y2, y3, y4, y5, y6, y7, y8, y9, y10, y11, y12, y13, y14, y15⟩ := hy; go_simp; first | done | omega)⟩) hHeld ?_
 try simp only [Act.put, List.setIfInBounds_toArray, List.set_cons_zero, List.set_cons_succ]
 refine wpAnyH_take (i := 5) (oi := { dst := some 101, op := _, type := _, pos := _, after := _, guard := _ }) (v := .agg #[x.vr, .int .i64 x.fam, x.vq, .int .i64 x.ts, .int .i64 x.seq, .int .i64 x.kind, x.vv]) rfl (by kernel_rfl) (by kernel_rfl) (by kernel_rfl) (fun _ _ _ h => h) (Or.inl ⟨by kernel_rfl, fun wy hy => by (obtain ⟨y0, y1, y2, y3, y4, y5, y6, y7, y8, y9, y10, y11, y12, y13, y14, y15⟩ := hy; go_simp; first | done | omega)⟩) hHeld ?_
 try simp only [Act.put, List.setIfInBounds_toArray, List.set_cons_zero, List.set_cons_succ]
 refine wpAnyH_take (i := 6) (oi := { dst := some 102, op := _, type := _, pos := _, after := _, guard := _ }) (v := .slice (some ⟨bz, oz, none⟩) mz cap) rfl (by kernel_rfl) (by kernel_rfl) (by kernel_rfl) (fun _ _ _ h => h) (Or.inl ⟨by kernel_rfl, fun wy hy => by (obtain ⟨y0, y1, y2, y3, y4, y5, y6, y7, y8, y9, y10, y11, y12, y13, y14, y15⟩ := hy; go_simp; first | done | omega)⟩) hHeld ?_
 try simp only [Act.put, List.setIfInBounds_toArray, List.set_cons_zero, List.set_cons_succ]
 refine wpAnyH_take (i := 7) (oi := { dst := some 103, op := _, type := _, pos := _, after := _, guard := _ }) (v := .int .i64 (n : Int)) rfl (by kernel_rfl) (by kernel_rfl) (by kernel_rfl) (fun _ _ _ h => h) (Or.inl ⟨by kernel_rfl, fun wy hy => by (obtain ⟨y0, y1, y2, y3, y4, y5, y6, y7, y8, y9, y10, y11, y12, y13, y14, y15⟩ := hy; go_simp; first | done | omega)⟩) hHeld ?_
 try simp only [Act.put, List.setIfInBounds_toArray, List.set_cons_zero, List.set_cons_succ]
 refine wpAnyH_take (i := 8) (oi := { dst := some 104, op := _, type := _, pos := _, after := _, guard := _ }) (v := .pointer (some ⟨bz, oz + n * 7, none⟩)) rfl (by kernel_rfl) (by kernel_rfl) (by kernel_rfl) (fun _ _ _ h => h) (Or.inl ⟨by kernel_rfl, fun wy hy => by (obtain ⟨y0, y1, y2, y3, y4, y5, y6, y7, y8, y9, y10, y11, y12, y13, y14, y15⟩ := hy; go_simp; first | done | omega)⟩) hHeld ?_
 try simp only [Act.put, List.setIfInBounds_toArray, List.set_cons_zero, List.set_cons_succ]
 refine wpAnyH_take (i := 9) (oi := { dst := some 105, op := _, type := _, pos := _, after := _, guard := _ }) (v := .agg #[y.vr, .int .i64 y.fam, y.vq, .int .i64 y.ts, .int .i64 y.seq, .int .i64 y.kind, y.vv]) rfl (by kernel_rfl) (by kernel_rfl) (by kernel_rfl) (fun _ _ _ h => h) (Or.inl ⟨by kernel_rfl, fun wy hy => by (obtain ⟨y0, y1, y2, y3, y4, y5, y6, y7, y8, y9, y10, y11, y12, y13, y14, y15⟩ := hy; go_simp; first | done | omega)⟩) hHeld ?_
 try simp only [Act.put, List.setIfInBounds_toArray, List.set_cons_zero, List.set_cons_succ]
 refine wpAnyH_ready (rs := [10]) (by kernel_rfl) (by simp) ?_
 refine AllReadyH.cons (o := { dst := some 106, op := _, type := _, pos := _, after := _, guard := _ }) rfl (fun KK hK => ?_) AllReadyH.nil
 go_simp
 go_at_call 33
 refine (HSe.out _ D0).mono ?_
 rintro z w1 ⟨rfl, hb1⟩
 have D1 := D0.trans (hb1.mono D0.size)
 clear hHeld
 have hHeld := HKS.out _ D1
 try simp only []
 refine hK.out _ _ hHeld (fun _ => ?_)
 clear hK
 try simp only [Act.put, List.setIfInBounds_toArray, List.set_cons_zero, List.set_cons_succ]
 refine wpAnyH_take (i := 11) (oi := { dst := some 107, op := _, type := _, pos := _, after := _, guard := _ }) (v := .bool false) rfl (by kernel_rfl) (by kernel_rfl) (by kernel_rfl) (fun _ _ _ h => h) (Or.inl ⟨by kernel_rfl, fun wy hy => by (obtain ⟨y0, y1, y2, y3, y4, y5, y6, y7, y8, y9, y10, y11, y12, y13, y14, y15⟩ := hy; go_simp; first | done | omega)⟩) hHeld ?_
 try simp only [Act.put, List.setIfInBounds_toArray, List.set_cons_zero, List.set_cons_succ]
 refine wpAnyH_take (i := 12) (oi := { dst := some 108, op := _, type := _, pos := _, after := _, guard := _ }) (v := .bool false) rfl (by kernel_rfl) (by kernel_rfl) (by kernel_rfl) (fun _ _ _ h => h) (Or.inl ⟨by kernel_rfl, fun wy hy => by (obtain ⟨y0, y1, y2, y3, y4, y5, y6, y7, y8, y9, y10, y11, y12, y13, y14, y15⟩ := hy; go_simp; first | done | omega)⟩) hHeld ?_
 try simp only [Act.put, List.setIfInBounds_toArray, List.set_cons_zero, List.set_cons_succ]
 refine wpAnyH_done (by kernel_rfl) ?_ _
 exact ⟨rfl, D1⟩
end Go.Proofs.YtchebhafabhabaaGreatDoor

namespace Go.Proofs.YtchebhafabhabaaGreatDoor
open Go.RowKit Go.Shelf
set_option linter.unusedVariables false

set_option maxRecDepth 100000 in
set_option maxHeartbeats 8000000 in
theorem reads_r46 {l' : Nat} {X : World} {b11 b16 b17 bz oz cap mz n : Nat} {x y : EntD} {s0 s1 s2 s3 s4 s5 s6 s7 s8 s9 s10 s12 s13 s14 s15 s17 s18 s19 s20 s21 s22 s23 s25 s26 s27 s28 s29 s30 s31 s32 s33 s34 s35 s36 s37 s38 s39 s40 s41 s42 s43 s44 s45 s46 s47 s48 s49 s50 s51 s52 s53 s54 s55 s56 s57 s58 s59 s60 s61 s62 s63 s64 s65 s66 s67 s68 s69 s70 s71 s72 s73 s74 s75 s76 s77 s78 s79 s80 s81 s82 s83 s84 s85 s86 s87 s88 s89 s90 s91 s92 s93 s94 s95 s96 s97 s98 s99 s100 s101 s102 s103 s104 s105 s106 s107 s108 s109 s110 s111 s112 s113 s114 s115 s116 s117 s118 s119 s120 s121 s122 s123 s124 s125 s126 s127 s128 s129 s130 s131 s132 s133 s134 s135 s136 s137 s138 s139 s140 s141 s142 s143 s144 s145 s146 s147 s148 s149 s150 s151 s152 s153 s154 s155 s156 s157 s158 s159 s160 s161 s162 s163 s164 s165 s166 s167 s168 s169 s170 s171 s172 s173 s174 s175 s176 s177 s178 s179 s180 s181 s182 s183 s184 s185 s186 s187 s188 s189 s190 s191 s192 s193 s194 s195 s196 s197 s198 s199 s200 s201 s202 s203 s204 s205 s206 s207 s208 s209 s210 s211 s212 s213 s214 s215 s216 : Value} (hn : n < mz) (KS : ∀ wx, Below X.heap.size X wx → wx.cell? ⟨b16, 0, none⟩ = some (.int .i64 (n : Int)) ∧ wx.cell? ⟨b11, 0, none⟩ = some (.slice (some ⟨bz, oz, none⟩) mz cap) ∧ wx.cell? ⟨b17, 0, none⟩ = some x.vr ∧ wx.cell? ⟨b17, 1, none⟩ = some (.int .i64 x.fam) ∧ wx.cell? ⟨b17, 2, none⟩ = some x.vq ∧ wx.cell? ⟨b17, 3, none⟩ = some (.int .i64 x.ts) ∧ wx.cell? ⟨b17, 4, none⟩ = some (.int .i64 x.seq) ∧ wx.cell? ⟨b17, 5, none⟩ = some (.int .i64 x.kind) ∧ wx.cell? ⟨b17, 6, none⟩ = some x.vv ∧ wx.cell? ⟨bz, oz + n * 7, none⟩ = some y.vr ∧ wx.cell? ⟨bz, oz + n * 7 + 1, none⟩ = some (.int .i64 y.fam) ∧ wx.cell? ⟨bz, oz + n * 7 + 2, none⟩ = some y.vq ∧ wx.cell? ⟨bz, oz + n * 7 + 3, none⟩ = some (.int .i64 y.ts) ∧ wx.cell? ⟨bz, oz + n * 7 + 4, none⟩ = some (.int .i64 y.seq) ∧ wx.cell? ⟨bz, oz + n * 7 + 5, none⟩ = some (.int .i64 y.kind) ∧ wx.cell? ⟨bz, oz + n * 7 + 6, none⟩ = some y.vv) (hSe : ∀ Z, Below X.heap.size X Z → Calls Tryz.prog 33 #[.agg #[x.vr, .int .i64 x.fam, x.vq, .int .i64 x.ts, .int .i64 x.seq, .int .i64 x.kind, x.vv], .agg #[y.vr, .int .i64 y.fam, y.vq, .int .i64 y.ts, .int .i64 y.seq, .int .i64 y.kind, y.vv]] Z fun r w' => r = .returned (.bool true) ∧ Below Z.heap.size Z w') :
  (fstC (fstC (inC (inC (inC (nthC 1 (fstC (nthC 18 ((Tryz.f4).body.getD .skip))))))))).wpIn (Fence.wide.inRound l') 9 Tryz.prog (fun e a' w' => match e with | .normal => a' = { tmps := #[s0, s1, s2, s3, s4, s5, s6, s7, s8, s9, s10, .pointer (some ⟨b11, 0, none⟩), s12, s13, s14, s15, .pointer (some ⟨b16, 0, none⟩), s17, s18, s19, s20, s21, s22, s23, .pointer (some ⟨b17, 0, none⟩), s25, s26, s27, s28, s29, s30, s31, s32, s33, s34, s35, s36, s37, s38, s39, s40, s41, s42, s43, s44, s45, s46, s47, s48, s49, s50, s51, s52, s53, s54, s55, s56, s57, s58, s59, s60, s61, s62, s63, s64, s65, s66, s67, s68, s69, s70, s71, s72, s73, s74, s75, s76, s77, s78, s79, s80, s81, s82, s83, s84, s85, s86, s87, s88, s89, s90, s91, s92, s93, s94, s95, s96, s97, s98, s99, s100, s101, s102, s103, s104, s105, s106, s107, s108, s109, s110, s111, s112, s113, s114, s115, s116, s117, s118, s119, s120, s121, s122, s123, s124, s125, s126, s127, s128, s129, s130, s131, s132, s133, s134, s135, s136, s137, s138, s139, s140, s141, s142, s143, s144, s145, s146, s147, s148, s149, s150, s151, s152, s153, s154, s155, s156, s157, s158, s159, s160, s161, s162, s163, s164, s165, s166, s167, s168, s169, s170, s171, s172, s173, s174, s175, s176, s177, s178, s179, s180, s181, s182, s183, s184, s185, s186, s187, s188, s189, s190, s191, s192, s193, .int .i64 (n : Int), .slice (some ⟨bz, oz, none⟩) mz cap, .int .i64 (mz : Int), .bool false, .bool false, .agg #[x.vr, .int .i64 x.fam, x.vq, .int .i64 x.ts, .int .i64 x.seq, .int .i64 x.kind, x.vv], .slice (some ⟨bz, oz, none⟩) mz cap, .int .i64 (n : Int), .pointer (some ⟨bz, oz + n * 7, none⟩), .agg #[y.vr, .int .i64 y.fam, y.vq, .int .i64 y.ts, .int .i64 y.seq, .int .i64 y.kind, y.vv], .bool true, .bool false, .bool false, s207, s208, s209, s210, s211, s212, s213, s214, s215, s216], defers := [] } ∧ Below X.heap.size X w' | _ => False) { tmps := #[s0, s1, s2, s3, s4, s5, s6, s7, s8, s9, s10, .pointer (some ⟨b11, 0, none⟩), s12, s13, s14, s15, .pointer (some ⟨b16, 0, none⟩), s17, s18, s19, s20, s21, s22, s23, .pointer (some ⟨b17, 0, none⟩), s25, s26, s27, s28, s29, s30, s31, s32, s33, s34, s35, s36, s37, s38, s39, s40, s41, s42, s43, s44, s45, s46, s47, s48, s49, s50, s51, s52, s53, s54, s55, s56, s57, s58, s59, s60, s61, s62, s63, s64, s65, s66, s67, s68, s69, s70, s71, s72, s73, s74, s75, s76, s77, s78, s79, s80, s81, s82, s83, s84, s85, s86, s87, s88, s89, s90, s91, s92, s93, s94, s95, s96, s97, s98, s99, s100, s101, s102, s103, s104, s105, s106, s107, s108, s109, s110, s111, s112, s113, s114, s115, s116, s117, s118, s119, s120, s121, s122, s123, s124, s125, s126, s127, s128, s129, s130, s131, s132, s133, s134, s135, s136, s137, s138, s139, s140, s141, s142, s143, s144, s145, s146, s147, s148, s149, s150, s151, s152, s153, s154, s155, s156, s157, s158, s159, s160, s161, s162, s163, s164, s165, s166, s167, s168, s169, s170, s171, s172, s173, s174, s175, s176, s177, s178, s179, s180, s181, s182, s183, s184, s185, s186, s187, s188, s189, s190, s191, s192, s193, s194, s195, s196, s197, s198, s199, s200, s201, s202, s203, s204, s205, s206, s207, s208, s209, s210, s211, s212, s213, s214, s215, s216], defers := [] } X := by
 have hn1 : (n : Int) < (mz : Int) := by omega
 have hn0 : (0 : Int) ≤ (n : Int) := by omega
 have d1 : decide ((mz : Int) ≤ (n : Int)) = false := by simp; omega
 have d2 : decide (mz ≤ n) = false := by simp; omega
 have hmz0 : (0 : Int) < (mz : Int) := by omega
 have D0 : Below X.heap.size X X.drew := (Below.refl _ _).drew
 have HKS := Lib.hid KS
 have HSe := Lib.hid hSe
 clear KS hSe
 show Code.wpIn _ _ _ (Code.region 46 _ true) _ _ _
 refine wpIn_region_any (by kernel_rfl) (anyIn (by kernel_rfl) (fun ⟨_, _, h⟩ => h) _ _ _ _ (wpAny_of_held (S := fun wx => wx.cell? ⟨b16, 0, none⟩ = some (.int .i64 (n : Int)) ∧ wx.cell? ⟨b11, 0, none⟩ = some (.slice (some ⟨bz, oz, none⟩) mz cap) ∧ wx.cell? ⟨b17, 0, none⟩ = some x.vr ∧ wx.cell? ⟨b17, 1, none⟩ = some (.int .i64 x.fam) ∧ wx.cell? ⟨b17, 2, none⟩ = some x.vq ∧ wx.cell? ⟨b17, 3, none⟩ = some (.int .i64 x.ts) ∧ wx.cell? ⟨b17, 4, none⟩ = some (.int .i64 x.seq) ∧ wx.cell? ⟨b17, 5, none⟩ = some (.int .i64 x.kind) ∧ wx.cell? ⟨b17, 6, none⟩ = some x.vv ∧ wx.cell? ⟨bz, oz + n * 7, none⟩ = some y.vr ∧ wx.cell? ⟨bz, oz + n * 7 + 1, none⟩ = some (.int .i64 y.fam) ∧ wx.cell? ⟨bz, oz + n * 7 + 2, none⟩ = some y.vq ∧ wx.cell? ⟨bz, oz + n * 7 + 3, none⟩ = some (.int .i64 y.ts) ∧ wx.cell? ⟨bz, oz + n * 7 + 4, none⟩ = some (.int .i64 y.seq) ∧ wx.cell? ⟨bz, oz + n * 7 + 5, none⟩ = some (.int .i64 y.kind) ∧ wx.cell? ⟨bz, oz + n * 7 + 6, none⟩ = some y.vv) _ _ _ _ ?_))
 change wpAnyH _ _ _ _ _ _ _ _ (World.drew _)
 have hHeld := HKS.out _ D0
 refine wpAnyH_take (i := 0) (oi := { dst := some 194, op := _, type := _, pos := _, after := _, guard := _ }) (v := .int .i64 (n : Int)) rfl (by kernel_rfl) (by kernel_rfl) (by kernel_rfl) (fun _ _ _ h => h) (Or.inl ⟨by kernel_rfl, fun wy hy => by (obtain ⟨y0, y1, y2, y3, y4, y5, y6, y7, y8, y9, y10, y11, y12, y13, y14, y15⟩ := hy; go_simp; first | done | omega)⟩) hHeld ?_
 try simp only [Act.put, List.setIfInBounds_toArray, List.set_cons_zero, List.set_cons_succ]
 refine wpAnyH_take (i := 1) (oi := { dst := some 195, op := _, type := _, pos := _, after := _, guard := _ }) (v := .slice (some ⟨bz, oz, none⟩) mz cap) rfl (by kernel_rfl) (by kernel_rfl) (by kernel_rfl) (fun _ _ _ h => h) (Or.inl ⟨by kernel_rfl, fun wy hy => by (obtain ⟨y0, y1, y2, y3, y4, y5, y6, y7, y8, y9, y10, y11, y12, y13, y14, y15⟩ := hy; go_simp; first | done | omega)⟩) hHeld ?_
 try simp only [Act.put, List.setIfInBounds_toArray, List.set_cons_zero, List.set_cons_succ]
 refine wpAnyH_take (i := 2) (oi := { dst := some 196, op := _, type := _, pos := _, after := _, guard := _ }) (v := .int .i64 (mz : Int)) rfl (by kernel_rfl) (by kernel_rfl) (by kernel_rfl) (fun _ _ _ h => h) (Or.inl ⟨by kernel_rfl, fun wy hy => by (obtain ⟨y0, y1, y2, y3, y4, y5, y6, y7, y8, y9, y10, y11, y12, y13, y14, y15⟩ := hy; go_simp; first | done | omega)⟩) hHeld ?_
 try simp only [Act.put, List.setIfInBounds_toArray, List.set_cons_zero, List.set_cons_succ]
 refine wpAnyH_take (i := 3) (oi := { dst := some 197, op := _, type := _, pos := _, after := _, guard := _ }) (v := .bool false) rfl (by kernel_rfl) (by kernel_rfl) (by kernel_rfl) (fun _ _ _ h => h) (Or.inl ⟨by kernel_rfl, fun wy hy => by (obtain ⟨y0, y1, y2, y3, y4, y5, y6, y7, y8, y9, y10, y11, y12, y13, y14, y15⟩ := hy; go_simp; first | done | omega)⟩) hHeld ?_
 try simp only [Act.put, List.setIfInBounds_toArray, List.set_cons_zero, List.set_cons_succ]
 refine wpAnyH_take (i := 4) (oi := { dst := some 198, op := _, type := _, pos := _, after := _, guard := _ }) (v := .bool false) rfl (by kernel_rfl) (by kernel_rfl) (by kernel_rfl) (fun _ _ _ h => h) (Or.inl ⟨by kernel_rfl, fun wy hy => by (obtain ⟨y0, y1, y2, y3, y4, y5, y6, y7, y8, y9, y10, y11, y12, y13, y14, y15⟩ := hy; go_simp; first | done | omega)⟩) hHeld ?_
 try simp only [Act.put, List.setIfInBounds_toArray, List.set_cons_zero, List.set_cons_succ]
 refine wpAnyH_take (i := 5) (oi := { dst := some 199, op := _, type := _, pos := _, after := _, guard := _ }) (v := .agg #[x.vr, .int .i64 x.fam, x.vq, .int .i64 x.ts, .int .i64 x.seq, .int .i64 x.kind, x.vv]) rfl (by kernel_rfl) (by kernel_rfl) (by kernel_rfl) (fun _ _ _ h => h) (Or.inl ⟨by kernel_rfl, fun wy hy => by (obtain ⟨y0, y1, y2, y3, y4, y5, y6, y7, y8, y9, y10, y11, y12, y13, y14, y15⟩ := hy; go_simp; first | done | omega)⟩) hHeld ?_
 try simp only [Act.put, List.setIfInBounds_toArray, List.set_cons_zero, List.set_cons_succ]
 refine wpAnyH_take (i := 6) (oi := { dst := some 200, op := _, type := _, pos := _, after := _, guard := _ }) (v := .slice (some ⟨bz, oz, none⟩) mz cap) rfl (by kernel_rfl) (by kernel_rfl) (by kernel_rfl) (fun _ _ _ h => h) (Or.inl ⟨by kernel_rfl, fun wy hy => by (obtain ⟨y0, y1, y2, y3, y4, y5, y6, y7, y8, y9, y10, y11, y12, y13, y14, y15⟩ := hy; go_simp; first | done | omega)⟩) hHeld ?_
 try simp only [Act.put, List.setIfInBounds_toArray, List.set_cons_zero, List.set_cons_succ]
 refine wpAnyH_take (i := 7) (oi := { dst := some 201, op := _, type := _, pos := _, after := _, guard := _ }) (v := .int .i64 (n : Int)) rfl (by kernel_rfl) (by kernel_rfl) (by kernel_rfl) (fun _ _ _ h => h) (Or.inl ⟨by kernel_rfl, fun wy hy => by (obtain ⟨y0, y1, y2, y3, y4, y5, y6, y7, y8, y9, y10, y11, y12, y13, y14, y15⟩ := hy; go_simp; first | done | omega)⟩) hHeld ?_
 try simp only [Act.put, List.setIfInBounds_toArray, List.set_cons_zero, List.set_cons_succ]
 refine wpAnyH_take (i := 8) (oi := { dst := some 202, op := _, type := _, pos := _, after := _, guard := _ }) (v := .pointer (some ⟨bz, oz + n * 7, none⟩)) rfl (by kernel_rfl) (by kernel_rfl) (by kernel_rfl) (fun _ _ _ h => h) (Or.inl ⟨by kernel_rfl, fun wy hy => by (obtain ⟨y0, y1, y2, y3, y4, y5, y6, y7, y8, y9, y10, y11, y12, y13, y14, y15⟩ := hy; go_simp; first | done | omega)⟩) hHeld ?_
 try simp only [Act.put, List.setIfInBounds_toArray, List.set_cons_zero, List.set_cons_succ]
 refine wpAnyH_take (i := 9) (oi := { dst := some 203, op := _, type := _, pos := _, after := _, guard := _ }) (v := .agg #[y.vr, .int .i64 y.fam, y.vq, .int .i64 y.ts, .int .i64 y.seq, .int .i64 y.kind, y.vv]) rfl (by kernel_rfl) (by kernel_rfl) (by kernel_rfl) (fun _ _ _ h => h) (Or.inl ⟨by kernel_rfl, fun wy hy => by (obtain ⟨y0, y1, y2, y3, y4, y5, y6, y7, y8, y9, y10, y11, y12, y13, y14, y15⟩ := hy; go_simp; first | done | omega)⟩) hHeld ?_
 try simp only [Act.put, List.setIfInBounds_toArray, List.set_cons_zero, List.set_cons_succ]
 refine wpAnyH_ready (rs := [10]) (by kernel_rfl) (by simp) ?_
 refine AllReadyH.cons (o := { dst := some 204, op := _, type := _, pos := _, after := _, guard := _ }) rfl (fun KK hK => ?_) AllReadyH.nil
 go_simp
 go_at_call 33
 refine (HSe.out _ D0).mono ?_
 rintro z w1 ⟨rfl, hb1⟩
 have D1 := D0.trans (hb1.mono D0.size)
 clear hHeld
 have hHeld := HKS.out _ D1
 try simp only []
 refine hK.out _ _ hHeld (fun _ => ?_)
 clear hK
 try simp only [Act.put, List.setIfInBounds_toArray, List.set_cons_zero, List.set_cons_succ]
 refine wpAnyH_take (i := 11) (oi := { dst := some 205, op := _, type := _, pos := _, after := _, guard := _ }) (v := .bool false) rfl (by kernel_rfl) (by kernel_rfl) (by kernel_rfl) (fun _ _ _ h => h) (Or.inl ⟨by kernel_rfl, fun wy hy => by (obtain ⟨y0, y1, y2, y3, y4, y5, y6, y7, y8, y9, y10, y11, y12, y13, y14, y15⟩ := hy; go_simp; first | done | omega)⟩) hHeld ?_
 try simp only [Act.put, List.setIfInBounds_toArray, List.set_cons_zero, List.set_cons_succ]
 refine wpAnyH_take (i := 12) (oi := { dst := some 206, op := _, type := _, pos := _, after := _, guard := _ }) (v := .bool false) rfl (by kernel_rfl) (by kernel_rfl) (by kernel_rfl) (fun _ _ _ h => h) (Or.inl ⟨by kernel_rfl, fun wy hy => by (obtain ⟨y0, y1, y2, y3, y4, y5, y6, y7, y8, y9, y10, y11, y12, y13, y14, y15⟩ := hy; go_simp; first | done | omega)⟩) hHeld ?_
 try simp only [Act.put, List.setIfInBounds_toArray, List.set_cons_zero, List.set_cons_succ]
 refine wpAnyH_done (by kernel_rfl) ?_ _
 exact ⟨rfl, D1⟩
end Go.Proofs.YtchebhafabhabaaGreatDoor
