import Derived.Test.YtchebhafabhabaaGreatDoorK17
namespace Go.Proofs.YtchebhafabhabaaGreatDoor
open Go.RowKit
set_option linter.unusedVariables false

structure E3 (w : World) (D : EntD) : Prop where
 r : ∃ a n c xs, D.vr = .slice a n c ∧ n ≤ 200000 ∧ Own w 0 (.slice a n c) n xs
 q : ∃ a n c xs, D.vq = .slice a n c ∧ n ≤ 200000 ∧ Own w 0 (.slice a n c) n xs
 v : ∃ a n c xs, D.vv = .slice a n c ∧ n ≤ 200000 ∧ Own w 0 (.slice a n c) n xs
 rq : ∀ k, D.vr.ownBlock = some k → D.vq.ownBlock ≠ some k
 rv : ∀ k, D.vr.ownBlock = some k → D.vv.ownBlock ≠ some k
 qv : ∀ k, D.vq.ownBlock = some k → D.vv.ownBlock ≠ some k
def EntD.blk (D : EntD) (k : Nat) : Prop := D.vr.ownBlock = some k ∨ D.vq.ownBlock = some k ∨ D.vv.ownBlock = some k
theorem E3.lt {w : World} {D : EntD} (h : E3 w D) : ∀ k, D.blk k → k < w.heap.size := by
 rintro k (e | e | e)
 ·obtain ⟨a, n, c, xs, e2, -, o⟩ := h.r; exact (o.2.lt k (e2 ▸ e)).2
 ·obtain ⟨a, n, c, xs, e2, -, o⟩ := h.q; exact (o.2.lt k (e2 ▸ e)).2
 ·obtain ⟨a, n, c, xs, e2, -, o⟩ := h.v; exact (o.2.lt k (e2 ▸ e)).2
theorem Own.fbF {w w' : World} {B m : Nat} {u : Value} {xs : List Nat} {X : Nat → Prop} (ho : Own w B u m xs) (f : Fb w w' X) (h : ∀ k, u.ownBlock = some k → ¬ X k) : Own w' B u m xs := ⟨ho.1, row_same ho.2 (fun k hk => f.block k (ho.2.lt k hk).2 (h k hk))⟩
theorem EBox.fbF {w w' : World} {g : Nat} {e : EntD} {X : Nat → Prop} (h : EBox w g e) (f : Fb w w' X) (k : ¬ X g) : EBox w' g e := (f.block g (Array.getElem?_eq_some_iff.1 h).1 k).trans h
set_option maxRecDepth 100000 in
set_option maxHeartbeats 4000000 in
theorem fentry_any {w : World} {g : Nat} {FO : Nat → Prop} {D : EntD} (hf : FuB w g FO) (hD : E3 w D) (hb : ∀ k, D.blk k → ¬ FO k) :
  Calls Tryz.prog 14 #[.pointer (some ⟨g, 0, none⟩), .agg D.cells] w fun e w' => (∃ v, e = .returned v) ∧ FuB w' g (fun k => FO k ∨ D.blk k ∨ (w.heap.size ≤ k ∧ k < w'.heap.size)) ∧ Fb w w' (fun k => FO k ∨ D.blk k) := by
 have hlt := hD.lt
 have hFl := hf.lt
 obtain ⟨⟨ar, nr, cr, xr, er, hnr, hor⟩, ⟨aq, nq, cq, xq, eq, hnq, hoq⟩, ⟨av, nv, cv, xv, ev, hnv, hov⟩, rq, rv, qv⟩ := hD
 have A0 := (Below.refl w.heap.size w).alloc (Nat.le_refl _) (.cells D.cells 40)
 have bx0 := EBox.new w D
 have sX : (w.alloc (.cells D.cells 40)).heap.size = w.heap.size + 1 := by simp
 obtain ⟨X0, hX0⟩ : ∃ X, X = w.alloc (.cells D.cells 40) := ⟨_, rfl⟩
 rw [← hX0] at A0 bx0 sX
 have HX0 := Lib.hid hX0
 have HB0 := Lib.hid A0
 have hf0 := hf.later A0
 have T1 := take_any hf0 (hor.later A0) (fun k hk => hb k (.inl (er ▸ hk))) hnr
 have HT1 := Lib.hid T1
 have HA := Lib.hid (And.intro A0 (And.intro bx0 (And.intro (hoq.later A0) (hov.later A0))))
 have HS := Lib.hid (And.intro hlt (And.intro hFl (And.intro hb (And.intro rq (And.intro rv qv)))))
 obtain ⟨vr, fam, vq, ts, seq, kind, vv, row, qual, val⟩ := D
 simp only at er eq ev
 subst er eq ev
 clear T1 hf0 hor hoq hov hlt hFl hb rq rv qv hX0
 have c0 := bx0.vr
 clear bx0
 simp only [EntD.cells] at *
 go_enter Tryz.func14, Tryz.ntmps14
 go_wp2_with fail
 rw [← HX0.out]
 refine HT1.out.mono ?_
 rintro e X1 ⟨⟨v1, rfl⟩, f1, k1⟩
 have bx1 : EBox X1 w.heap.size ⟨.slice ar nr cr, fam, .slice aq nq cq, ts, seq, kind, .slice av nv cv, row, qual, val⟩ := HA.out.2.1.fbF k1 (by
  rintro (e | e)
  ·have := HS.out.2.1 _ e; omega
  ·have := HS.out.1 _ (.inl e); omega)
 have oq1 := HA.out.2.2.1.fbF k1 (fun k hk => by
  rintro (e | e)
  ·exact HS.out.2.2.1 k (.inr (.inl hk)) e
  ·exact HS.out.2.2.2.1 k e hk)
 have ov1 := HA.out.2.2.2.fbF k1 (fun k hk => by
  rintro (e | e)
  ·exact HS.out.2.2.1 k (.inr (.inr hk)) e
  ·exact HS.out.2.2.2.2.1 k e hk)
 have HT2 := Lib.hid (take_any f1 oq1 (fun k hk => by
  rintro (e | e | e)
  ·exact HS.out.2.2.1 k (.inr (.inl hk)) e
  ·exact HS.out.2.2.2.1 k e hk
  ·have := HS.out.1 k (.inr (.inl hk)); omega) hnq)
 have c2 := bx1.vq
 have HA1 := Lib.hid (And.intro bx1 (And.intro ov1 k1))
 clear bx1 oq1 ov1 k1 f1 HT1 HA c0 HX0
 simp only at c2
 go_wp2_with fail
 refine HT2.out.mono ?_
 rintro e X2 ⟨⟨v2, rfl⟩, f2, k2⟩
 have hs1 : w.heap.size + 1 ≤ X1.heap.size := by have := HA1.out.2.2.size; omega
 have bx2 := HA1.out.1.fbF k2 (by
  rintro ((e | e | e) | e)
  ·have := HS.out.2.1 _ e; omega
  ·have := HS.out.1 _ (.inl e); omega
  ·omega
  ·have := HS.out.1 _ (.inr (.inl e)); omega)
 have ov2 := HA1.out.2.1.fbF k2 (fun k hk => by
  rintro ((e | e | e) | e)
  ·exact HS.out.2.2.1 k (.inr (.inr hk)) e
  ·exact HS.out.2.2.2.2.1 k e hk
  ·have := HS.out.1 k (.inr (.inr hk)); omega
  ·exact HS.out.2.2.2.2.2 k e hk)
 have HT3 := Lib.hid (take_any f2 ov2 (fun k hk => by
  rintro ((e | e | e) | e | e)
  ·exact HS.out.2.2.1 k (.inr (.inr hk)) e
  ·exact HS.out.2.2.2.2.1 k e hk
  ·have := HS.out.1 k (.inr (.inr hk)); omega
  ·exact HS.out.2.2.2.2.2 k e hk
  ·have := HS.out.1 k (.inr (.inr hk)); omega) hnv)
 have c6 := bx2.vv
 have HA2 := Lib.hid (And.intro HA1.out.2.2 k2)
 clear bx2 ov2 k2 f2 HT2 HA1 c2
 simp only at c6
 go_wp2_with fail
 refine HT3.out.mono ?_
 rintro e X3 ⟨⟨v3, rfl⟩, f3, k3⟩
 have HEnd := Lib.hid (And.intro f3 k3)
 clear f3 k3 HT3 c6
 go_wp2
 refine bodyPost_end (results_none rfl _ _ _) rfl ?_
 obtain ⟨f3, k3⟩ := HEnd.out
 obtain ⟨k1, k2⟩ := HA2.out
 have hs12 := k2.size
 have hs23 := k3.size
 refine ⟨⟨_, rfl⟩, f3.more ?_ ?_, ?_⟩
 ·rintro i (((e | e | e) | e | e) | e | e)
  ·exact .inl e
  ·exact .inr (.inl (.inl e))
  ·exact .inr (.inr ⟨by omega, by omega⟩)
  ·exact .inr (.inl (.inr (.inl e)))
  ·exact .inr (.inr ⟨by omega, by omega⟩)
  ·exact .inr (.inl (.inr (.inr e)))
  ·exact .inr (.inr ⟨by omega, by omega⟩)
 ·rintro i (e | e | e)
  ·have := HS.out.2.1 i e; omega
  ·have := HS.out.1 i e; omega
  ·exact e.2
 ·have m0 : Fb w X0 (fun k => FO k ∨ EntD.blk ⟨.slice ar nr cr, fam, .slice aq nq cq, ts, seq, kind, .slice av nv cv, row, qual, val⟩ k ∨ w.heap.size ≤ k) := Fb.of_below HB0.out
  have m1 := m0.trans (k1.mono (fun i _ e => by
   rcases e with e | e
   ·exact .inl e
   ·exact .inr (.inl (.inl e))))
  have m2 := m1.trans (k2.mono (fun i _ e => by
   rcases e with (e | e | e) | e
   ·exact .inl e
   ·exact .inr (.inl (.inl e))
   ·exact .inr (.inr (by omega))
   ·exact .inr (.inl (.inr (.inl e)))))
  have m3 := m2.trans (k3.mono (fun i _ e => by
   rcases e with ((e | e | e) | e | e) | e
   ·exact .inl e
   ·exact .inr (.inl (.inl e))
   ·exact .inr (.inr (by omega))
   ·exact .inr (.inl (.inr (.inl e)))
   ·exact .inr (.inr (by omega))
   ·exact .inr (.inl (.inr (.inr e)))))
  refine m3.mono (fun i hi e => ?_)
  rcases e with e | e | e
  ·exact .inl e
  ·exact .inr e
  ·omega
end Go.Proofs.YtchebhafabhabaaGreatDoor

namespace Go.Proofs.YtchebhafabhabaaGreatDoor
open Go.RowKit
set_option linter.unusedVariables false

theorem below_drewF {B : Nat} {a w : World} (h : Below B a w) (n : Nat) : Below B a (w.drewN n) := ⟨h.os, h.tape, h.output, h.size, h.block⟩
set_option maxRecDepth 100000 in
set_option maxHeartbeats 4000000 in
theorem whole_any {w : World} {g : Nat} {FO : Nat → Prop} (hf : FuB w g FO) :
  Calls Tryz.prog 16 #[.pointer (some ⟨g, 0, none⟩)] w fun e w' => e = .returned (.bool true) ∧ Below w.heap.size w w' := by
 obtain ⟨O, aL, nL, cL, aM, cM, N, vs, ms, h, -, -, -, -, -⟩ := hf
 have HC : Hid (∀ wr, Below w.heap.size w wr → wr.cell? ⟨g, 0, none⟩ = some (.slice aL nL cL) ∧ wr.cell? ⟨g, 1, none⟩ = some (.slice aM nL cM)) := fun wr b => by
  have hg := (Array.getElem?_eq_some_iff.1 h.box).1
  exact ⟨(b.cell (p := ⟨g, 0, none⟩) hg).trans h.cells.1, (b.cell (p := ⟨g, 1, none⟩) hg).trans h.cells.2.1⟩
 have hnL : nL ≤ 80000 := by have := h.few; omega
 have HL : Hid (∀ t, t < nL → ∃ (gL gM : Nat) (an : Option Addr) (n c m : Nat), aL = some ⟨gL, 0, none⟩ ∧ aM = some ⟨gM, 0, none⟩ ∧ n ≤ 140737488355328 ∧ m < 256 ∧ (∀ wr, Below w.heap.size w wr → wr.cell? ⟨gL, t, none⟩ = some (.slice an n c) ∧ wr.cell? ⟨gM, t, none⟩ = some (.int .u8 (m : Int))) ∧ ∀ q, q < n → ∃ b, an = some ⟨b, 0, none⟩ ∧ ∀ wr, Below w.heap.size w wr → wr.cell? ⟨b, q, none⟩ = some (.int .u8 (m : Int))) := fun t ht => by
  have hml : ms.length = nL := h.own.1.symm
  obtain ⟨m, hm⟩ : ∃ m, ms[t]? = some m := ⟨_, List.getElem?_eq_getElem (by omega)⟩
  obtain ⟨v, hv⟩ : ∃ v, vs[t]? = some v := ⟨_, List.getElem?_eq_getElem (by have := h.len; omega)⟩
  obtain ⟨an, n, c, rfl, hn, hk⟩ := h.marks t v m hv hm
  have hgL : ∃ gL, aL = some ⟨gL, 0, none⟩ := by
   rcases h.row.2 with ⟨h1, h0⟩ | ⟨gL, cap, cur, h1, -⟩
   ·omega
   ·simp only [Value.slice.injEq] at h1; exact ⟨gL, h1.1⟩
  obtain ⟨gL, rfl⟩ := hgL
  have hgM : ∃ gM, aM = some ⟨gM, 0, none⟩ := by
   rcases h.own.2.2 with ⟨h1, h0⟩ | ⟨gM, cap, cur, h1, -⟩
   ·omega
   ·simp only [Value.slice.injEq] at h1; exact ⟨gM, h1.1⟩
  obtain ⟨gM, rfl⟩ := hgM
  have e1 : w.cell? ⟨gL, t, none⟩ = some (.slice an n c) := (h.row.cellAt t (by have := h.len; omega)).trans hv
  have e2 : w.cell? ⟨gM, t, none⟩ = some (.int .u8 (m : Int)) := by
   rw [h.own.2.cellAt t (by omega)]
   simp [bv, hm]
  refine ⟨gL, gM, an, n, c, m, rfl, rfl, hn, h.bys m (List.mem_of_getElem? hm), fun wr b => ⟨(b.cell (World.block_lt_of_cell? _ _ e1)).trans e1, (b.cell (World.block_lt_of_cell? _ _ e2)).trans e2⟩, fun q hq => ?_⟩
  rcases hk with hk | ⟨b, rfl, -, hc⟩
  ·omega
  ·exact ⟨b, rfl, fun wr bl => (bl.cell (World.block_lt_of_cell? _ _ (hc q hq))).trans (hc q hq)⟩
 clear h
 go_enter Tryz.func16, Tryz.ntmps16
 go_wp2
 go_loopw [3, 4] (fun i k wr => ∃ t : Nat, t ≤ nL ∧ i = .int .i64 (t : Int) ∧ Below w.heap.size w wr) (fun i _ _ => nL - (intOf i).toNat)
 case atStart => exact ⟨0, by omega, rfl, Below.refl _ _⟩
 case round =>
  obtain ⟨t, ht, rfl, hbk⟩ := hrel
  obtain ⟨k0, k1⟩ := HC.out wr hbk
  by_cases h1 : t < nL
  ·have h1' : (t : Int) < (nL : Int) := by omega
   have ht0 : (0 : Int) ≤ (t : Int) := by omega
   obtain ⟨gL, gM, an, n, c, m, rfl, rfl, hn, hm, hc, hq⟩ := HL.out t h1
   have HQ := Lib.hid hq
   have HCc := Lib.hid hc
   clear hq hc
   go_wp2
   go_loopw [4] (fun k wz => ∃ q : Nat, q ≤ n ∧ k = .int .i64 (q : Int) ∧ Below w.heap.size w wz) (fun k _ => n - (intOf k).toNat)
   case atStart => exact ⟨0, by omega, rfl, hbk⟩
   case round =>
    obtain ⟨q, hqn, rfl, hbz⟩ := hrel
    clear k0 k1
    obtain ⟨k0, k1⟩ := HC.out wr hbz
    obtain ⟨l0, l1⟩ := HCc.out wr hbz
    by_cases h2 : q < n
    ·have h2' : (q : Int) < (n : Int) := by omega
     have hq0 : (0 : Int) ≤ (q : Int) := by omega
     obtain ⟨b, rfl, hcb⟩ := HQ.out q h2
     have cb := hcb wr hbz
     clear hcb
     go_wp2
     go_quiet (fail)
     go_wp2
     go_roundw
     case rel => exact ⟨q + 1, by omega, by go_num, below_drewF hbz _⟩
     case measure => simp [intOf]; omega
    ·have h2' : ¬ (q : Int) < (n : Int) := by omega
     go_wp2
     go_roundw
     case rel => exact ⟨t + 1, by omega, by go_num, hbz⟩
     case measure => simp [intOf]; omega
  ·have h1' : ¬ (t : Int) < (nL : Int) := by omega
   go_wp2
   go_ret
   exact ⟨rfl, hbk⟩
end Go.Proofs.YtchebhafabhabaaGreatDoor
