import Derived.Test.YtpabbnddeklpdaaGreatK22
namespace Go.Proofs.YtpabbnddeklpdaaGreat
open Go.RowKit Go.Shelf
set_option linter.unusedVariables false

def GI (w : World) (nb pB tB g : Nat) (X FO : Nat → Prop) (R : List EntD) (lv : Value) (f : Bool) (c : Nat → Nat) (J : World → Prop) (Bs : Nat → World → Prop) (n : Nat) (W : World) (X' FO' : Nat → Prop) (L' R' : List EntD) (lv' : Value) : Prop :=
 RC w W nb pB tB g X FO X' FO' L' R' lv' f ∧ RdX X W lv R ∧ Bs n W ∧ J W ∧ L'.length ≤ c n ∧ n ≤ R.length
def BsK (w : World) (nb : Nat) (Bs : Nat → World → Prop) : Prop := ∀ n W Z, Bs n W → KpC (fun k => w.heap.size ≤ k ∧ k < nb) W Z → Bs n Z
variable {w : World} {nb pB tB g n : Nat} {X FO : Nat → Prop} {L R Rw : List EntD} {lv wv : Value} {f : Bool} {c : Nat → Nat} {C : Nat → Prop} {J : World → Prop} {Bs : Nat → World → Prop} {W Z : World} {X' FO' : Nat → Prop} {L' R' : List EntD} {lv' : Value} {fn : Nat} {lb : Array Value}
theorem GI.turn {B : Nat} (hD : Doer pB tB g f fn lb c C J) (hK : BsK w nb Bs) (h : GI w nb pB tB g X FO Rw wv f c J Bs n W X' FO' L' R' lv') (hB : w.heap.size ≤ B) (t : Turn B W Z) : GI w nb pB tB g X FO Rw wv f c J Bs n Z X' FO' L' R' lv' :=
 ⟨h.1.turn hB t, h.2.1.keptC t.toC, hK _ _ _ h.2.2.1 t.toC, hD.keep _ _ h.2.2.2.1 t.toC, h.2.2.2.2⟩
theorem GI.later (hD : Doer pB tB g f fn lb c C J) (hK : BsK w nb Bs) (h : GI w nb pB tB g X FO Rw wv f c J Bs n W X' FO' L' R' lv') (b : Below W.heap.size W Z) : GI w nb pB tB g X FO Rw wv f c J Bs n Z X' FO' L' R' lv' :=
 ⟨h.1.later b, h.2.1.keptC (KpC.of_below b), hK _ _ _ h.2.2.1 (KpC.of_below b), hD.keep _ _ h.2.2.2.1 (KpC.of_below b), h.2.2.2.2⟩
theorem GI.full {x : EntD} {s : Nat} {F2 : Nat → Prop} (hD : Doer pB tB g f fn lb c C J) (hK : BsK w nb Bs) (hG : Gm w pB tB g X FO L R lv f) (h : GI w nb pB tB g X FO Rw wv f c J Bs n W X' FO' L' R' lv') (hw : w.heap.size ≤ nb) (hz : nb ≤ W.heap.size) (hC : ∀ k, C k → k < w.heap.size ∧ ¬ FO k)
  (hf : FuB Z g F2) (hb : Fb W Z (fun k => FO' k ∨ x.blk k)) (hx : ∀ k, x.blk k → s ≤ k) (hs : nb ≤ s ∧ ∀ k, X' k → k < s) (hF : ∀ k, F2 k → FO' k ∨ x.blk k ∨ W.heap.size ≤ k) :
  ∃ FO2, GI w nb pB tB g X FO Rw wv f c J Bs n Z X' FO2 L' R' lv' ∧ (∀ k, FO2 k → FO' k ∨ x.blk k ∨ W.heap.size ≤ k) := by
 obtain ⟨FO2, h1, h2⟩ := h.1.full (Y := fun k => x.blk k) (by omega) hz hf hb (fun k hk => ⟨Nat.le_trans hs.1 (hx k hk), fun q => by have := hs.2 k q; have := hx k hk; omega⟩) hF ⟨hG.pl.plt, hG.pl.tlt⟩
 have old : ∀ k, k < nb → (w.heap.size ≤ k ∨ ¬ FO k) → ¬ (FO' k ∨ x.blk k) := fun k hk ho q => by
  rcases q with q | q
  ·rcases h.1.nf k q with q | q
   ·rcases ho with ho | ho
    ·have := (hG.fc k q).lt; omega
    ·exact ho q
   ·omega
  ·have := hx k q; omega
 exact ⟨FO2, ⟨h1, h.2.1.keptC (KpC.of_fb hb (fun k hk => old k (by have := hG.pl.lt k hk; omega) (.inr (fun q => hG.ap k (.inr (.inr hk)) q)))), hK _ _ _ h.2.2.1 (KpC.of_fb hb (fun k hk => old k hk.2 (.inl hk.1))), hD.keep _ _ h.2.2.2.1 (KpC.of_fb hb (fun k hk => old k (by have := hC k hk; omega) (.inr (hC k hk).2))), h.2.2.2.2⟩, h2⟩
theorem GI.did {e : Ending} (hD : Doer pB tB g f fn lb c C J) (hK : BsK w nb Bs) (hG : Gm w pB tB g X FO L R lv f) (h : GI w nb pB tB g X FO Rw wv f c J Bs n W X' FO' L' R' lv') (hw : w.heap.size ≤ nb) (hz : nb ≤ W.heap.size) (hC : ∀ k, C k → k < w.heap.size ∧ ¬ PlB pB tB X k ∧ ¬ FO k)
  (hp : PlP W pB tB g X' FO' (c (n + 1)) f e Z) : ∃ X2 FO2 L2 R2 lv2, (RC w Z nb pB tB g X FO X2 FO2 L2 R2 lv2 f ∧ RdX X Z wv Rw ∧ Bs n Z ∧ J Z ∧ L2.length ≤ c (n + 1)) ∧ Fb W Z (fun k => k = pB ∨ k = tB ∨ FO' k) := by
 obtain ⟨-, X2, FO2, L2, R2, lv2, gm, go, hl⟩ := hp
 have old : ∀ k, k < nb → (w.heap.size ≤ k ∨ ¬ (k = pB ∨ k = tB ∨ FO k)) → ¬ (k = pB ∨ k = tB ∨ FO' k) := fun k hk ho q => by
  have h1 := hG.pl.plt
  have h2 := hG.pl.tlt
  rcases q with q | q | q
  ·rcases ho with ho | ho
   ·omega
   ·exact ho (.inl q)
  ·rcases ho with ho | ho
   ·omega
   ·exact ho (.inr (.inl q))
  ·rcases h.1.nf k q with q | q
   ·rcases ho with ho | ho
    ·have := (hG.fc k q).lt; omega
    ·exact ho (.inr (.inr q))
   ·omega
 refine ⟨X2, FO2, L2, R2, lv2, ⟨h.1.step (by omega) hz gm go, h.2.1.keptC (KpC.of_fb go.fb (fun k hk => old k (by have := hG.pl.lt k hk; omega) (.inr (fun q => ?_)))), hK _ _ _ h.2.2.1 (KpC.of_fb go.fb (fun k hk => old k hk.2 (.inl hk.1))), hD.keep _ _ h.2.2.2.1 (KpC.of_fb go.fb (fun k hk => old k (by have := hC k hk; omega) (.inr (fun q => ?_)))), hl⟩, go.fb⟩
 ·rcases q with q | q | q
  ·exact hG.pl.np (q ▸ hk)
  ·exact hG.pl.tab.not (q ▸ hk)
  ·exact hG.ap k (.inr (.inr hk)) q
 ·have h3 := hC k hk
  rcases q with q | q | q
  ·exact h3.2.1 (.inl q)
  ·exact h3.2.1 (.inr (.inl q))
  ·exact h3.2.2 q
def GE (w : World) (nb pB tB g : Nat) (X FO : Nat → Prop) (R : List EntD) (lv : Value) (f : Bool) (c : Nat → Nat) (J : World → Prop) (Bs : Nat → World → Prop) (n : Nat) (W : World) : Prop := ∃ (X' FO' : Nat → Prop) (L' R' : List EntD) (lv' : Value), GI w nb pB tB g X FO R lv f c J Bs n W X' FO' L' R' lv'
theorem GE.turn {B : Nat} (h : GE w nb pB tB g X FO Rw wv f c J Bs n W) (hD : Doer pB tB g f fn lb c C J) (hK : BsK w nb Bs) (hB : w.heap.size ≤ B) (t : Turn B W Z) : GE w nb pB tB g X FO Rw wv f c J Bs n Z := by
 obtain ⟨X', FO', L', R', lv', k⟩ := h
 exact ⟨X', FO', L', R', lv', k.turn hD hK hB t⟩
theorem GI.round {X0 Y Y2 Y3 : World} {s B B2 bk : Nat} {FO2 X3 FO3 : Nat → Prop} {L3 R3 : List EntD} {lv3 : Value} {x : EntD}
  (hD : Doer pB tB g f fn lb c C J) (hG : Gm w pB tB g X FO L R lv f) (hal : GI w nb pB tB g X FO Rw wv f c J Bs n X0 X' FO' L' R' lv') (hbY : Below X0.heap.size X0 Y) (f2 : Fb Y Y2 (fun k => FO' k ∨ x.blk k)) (hf2 : ∀ k, FO2 k → FO' k ∨ x.blk k ∨ Y.heap.size ≤ k)
  (f3 : Fb Y2 Y3 (fun k => k = pB ∨ k = tB ∨ FO2 k)) (r3 : RC w Y3 nb pB tB g X FO X3 FO3 L3 R3 lv3 f ∧ RdX X Y3 wv Rw ∧ Bs n Y3 ∧ J Y3 ∧ L3.length ≤ c (n + 1)) (ho : O3 X0 s x) (hs : nb ≤ s) (hbk : w.heap.size ≤ bk ∧ bk < B) (hkc : CellsAt X0 bk) (hset : ∀ W, Bs n W → Bs (n + 1) (W.setCell ⟨bk, 0, none⟩ (.int .i64 ((n + 1 : Nat) : Int)))) (hnb : nb = B + 4) (hn : n + 1 ≤ Rw.length) (hC : ∀ k, C k → k < w.heap.size) :
  KeepsFrom B2 X0 (Y3.setCell ⟨bk, 0, none⟩ (.int .i64 ((n + 1 : Nat) : Int))) ∧ KpO X B X0 (Y3.setCell ⟨bk, 0, none⟩ (.int .i64 ((n + 1 : Nat) : Int))) ∧ GE w nb pB tB g X FO Rw wv f c J Bs (n + 1) (Y3.setCell ⟨bk, 0, none⟩ (.int .i64 ((n + 1 : Nat) : Int))) := by
 obtain ⟨rc3, rd3, al3, j3, l3⟩ := r3
 have hxb : ∀ k, x.blk k → s ≤ k ∧ k < X0.heap.size := fun k hk => ho.lt k hk
 have fs : Fb Y3 (Y3.setCell ⟨bk, 0, none⟩ (.int .i64 ((n + 1 : Nat) : Int))) (fun k => k = bk) := Fb.set1 (O := fun k => k = bk) rfl _
 have ft : Fb X0 (Y3.setCell ⟨bk, 0, none⟩ (.int .i64 ((n + 1 : Nat) : Int))) (fun k => k = pB ∨ k = tB ∨ FO' k ∨ x.blk k ∨ k = bk) := by
  have t1 : Fb X0 Y2 (fun k => FO' k ∨ x.blk k) := (Fb.of_below hbY).trans' f2 hbY.size (fun i _ q => q)
  have t2 : Fb X0 Y3 (fun k => k = pB ∨ k = tB ∨ FO' k ∨ x.blk k) := (t1.mono (fun i _ q => .inr (.inr q))).trans' f3 t1.size (fun i hi q => by
   rcases q with q | q | q
   ·exact .inl q
   ·exact .inr (.inl q)
   ·rcases hf2 i q with q | q | q
    ·exact .inr (.inr (.inl q))
    ·exact .inr (.inr (.inr q))
    ·have := hbY.size; omega)
  refine (t2.mono (fun i _ q => ?_)).trans' fs t2.size (fun i _ q => .inr (.inr (.inr (.inr q))))
  rcases q with q | q | q | q
  ·exact .inl q
  ·exact .inr (.inl q)
  ·exact .inr (.inr (.inl q))
  ·exact .inr (.inr (.inr (.inl q)))
 have hplt := hG.pl.plt
 have htlt := hG.pl.tlt
 have hcells : ∀ k, (k = pB ∨ k = tB ∨ FO' k ∨ x.blk k ∨ k = bk) → k < X0.heap.size → CellsAt X0 k := fun k hk _ => by
  rcases hk with rfl | rfl | q | q | rfl
  ·exact ⟨_, hal.1.gm.pl.box, rfl⟩
  ·obtain ⟨p, T, h1, _⟩ := hal.1.gm.pl.tab.tree
   exact ⟨_, h1, rfl⟩
  ·exact hal.1.gm.fc k q
  ·exact ho.cellsAt q
  ·exact hkc
 have hout : ∀ k, (k = pB ∨ k = tB ∨ FO' k ∨ x.blk k ∨ k = bk) → ¬ X k ∧ ¬ (B ≤ k ∧ k < B + 4) := fun k hk => by
  rcases hk with rfl | rfl | q | q | rfl
  ·exact ⟨hG.pl.np, by omega⟩
  ·exact ⟨hG.pl.tab.not, by omega⟩
  ·rcases hal.1.nf k q with q | q
   ·exact ⟨fun z => hG.ap k (.inr (.inr z)) q, by have := (hG.fc k q).lt; omega⟩
   ·exact ⟨fun z => by have := hG.pl.lt k z; omega, by omega⟩
  ·have := hxb k q
   exact ⟨fun z => by have := hG.pl.lt k z; omega, by omega⟩
  ·exact ⟨fun z => by have := hG.pl.lt _ z; omega, by omega⟩
 refine ⟨keeps_of ft hcells, kpo_of ft hcells hout, X3, FO3, L3, R3, lv3, ⟨rc3.gm.keptC (H := fun k => k ≠ bk) (KpC.of_fb fs (fun k hk q => hk q)) (fun k hk q => ?_) (fun k hk q => ?_), rc3.fb.trans' fs rc3.fb.size (fun i hi q => ?_), rc3.nx, rc3.nf⟩, rd3.keptC (KpC.of_fb fs (fun k hk q => ?_)), hset _ al3, hD.keep _ _ j3 (KpC.of_fb fs (fun k hk q => ?_)), l3, hn⟩
 ·rcases hk with q1 | q1 | q1
  ·omega
  ·omega
  ·rcases rc3.nx k q1 with q2 | q2
   ·have := hG.pl.lt k q2; omega
   ·omega
 ·rcases rc3.nf k hk with q2 | q2
  ·have := (hG.fc k q2).lt; omega
  ·omega
 ·have q' : i = bk := q
  omega
 ·have q' : k = bk := q
  have := hG.pl.lt k hk; omega
 ·have q' : k = bk := q
  have := hC k hk; omega
theorem Laid.keptC8 {w w' : World} {B : Nat} {u : Value} {bs : List Nat} {H : Nat → Prop} (h : Laid w B u bs) (k : KpC H w w') (hH : ∀ g, u.ownBlock = some g → H g) : Laid w' B u bs := by
 obtain ⟨g, c, rfl, h2, h3, o⟩ := h
 refine ⟨g, c, rfl, h2, h3, own_same o (fun i hi => ?_)⟩
 obtain ⟨_, cur, hg⟩ := own_at o.2 hi
 exact k.same ⟨_, hg, rfl⟩ (hH i hi)
theorem LaidE.keptC8 {w w' : World} {B : Nat} {D : EntD} {H : Nat → Prop} (h : LaidE w B D) (k : KpC H w w') (hH : ∀ g, D.blk g → H g) : LaidE w' B D := ⟨h.1.keptC8 k (fun g hg => hH g (.inl hg)), h.2.1.keptC8 k (fun g hg => hH g (.inr (.inl hg))), h.2.2.keptC8 k (fun g hg => hH g (.inr (.inr hg)))⟩
end Go.Proofs.YtpabbnddeklpdaaGreat

namespace Go.Proofs.YtpabbnddeklpdaaGreat
open Go.RowKit Go.Shelf
set_option linter.unusedVariables false
set_option linter.unusedSimpArgs false
attribute [local go_sem] Oper.semAt_some

theorem sm_from {R L : List EntD} {D1 D2 x0 : EntD} {T : BT} (hs : Sm R L) (hT : T.ord = L) (hl : Srt L) (h0 : EntD.Same x0 { D1 with vv := .slice none 0 0, val := [] }) (h12 : EntD.Same D1 D2) : Sm (R.dropWhile (fun y => decide (compareS y D2 < 0))) (fromS x0 T) := by
 rw [fromS_drop _ _ (by rw [hT]; exact hl), hT]
 have e : (fun y => decide (compareS y x0 < 0)) = (fun y => decide (compareS y D2 < 0)) := by
  funext y
  have e1 : compareS y x0 = compareS y { D1 with vv := .slice none 0 0, val := [] } := cmp_same (EntD.Same.rfl' y) h0
  rw [e1, compareS_noval, cmp_same (EntD.Same.rfl' y) h12]
 rw [e]
 exact Sm.dropW (EntD.Same.rfl' D2) hs
structure GvB (b B1 g : Nat) (N : Int) (dv wv : Value) (b1 b2 b13 bk : Nat) (D1 D2 : EntD) (n : Nat) (W : World) : Prop where
 x1 : Bxd W (b + 1) 3 (.int .i64 N)
 x2 : Bxd W (b + 2) 32 (.pointer (some ⟨g, 0, none⟩))
 x3 : Bxd W (b + 3) 52 dv
 x4 : Bxd W (b + 4) 4 (.bool false)
 e1 : EBox W b1 D1
 e2 : EBox W b2 D2
 x13 : Bxd W b13 27 wv
 xk : Bxd W bk 3 (.int .i64 (n : Int))
 l1 : LaidE W B1 D1
 l2 : LaidE W B1 D2
structure GvN (b nb b1 b2 b13 bk : Nat) (D1 D2 : EntD) : Prop where
 n0 : b + 5 ≤ nb
 n1 : b ≤ b1 ∧ b1 < nb
 n2 : b ≤ b2 ∧ b2 < nb
 n13 : b ≤ b13 ∧ b13 < nb
 nk : b ≤ bk ∧ bk < nb
 d1 : ∀ k, D1.blk k → b ≤ k ∧ k < nb
 d2 : ∀ k, D2.blk k → b ≤ k ∧ k < nb
 nek : b + 4 < bk ∧ bk ≠ b1 ∧ bk ≠ b2 ∧ bk ≠ b13 ∧ (∀ k, D1.blk k → bk ≠ k) ∧ (∀ k, D2.blk k → bk ≠ k)
theorem GvB.keptC {b B1 g b1 b2 b13 bk n : Nat} {N : Int} {dv wv : Value} {D1 D2 : EntD} {W Z : World} {H : Nat → Prop} (h : GvB b B1 g N dv wv b1 b2 b13 bk D1 D2 n W) (k : KpC H W Z) (h0 : ∀ i, 0 < i → i < 5 → H (b + i)) (h1 : H b1 ∧ H b2 ∧ H b13 ∧ H bk) (hd1 : ∀ i, D1.blk i → H i) (hd2 : ∀ i, D2.blk i → H i) : GvB b B1 g N dv wv b1 b2 b13 bk D1 D2 n Z :=
 ⟨k.cells _ _ h.x1 rfl (h0 1 (by omega) (by omega)), k.cells _ _ h.x2 rfl (h0 2 (by omega) (by omega)), k.cells _ _ h.x3 rfl (h0 3 (by omega) (by omega)), k.cells _ _ h.x4 rfl (h0 4 (by omega) (by omega)), k.cells _ _ h.e1 rfl h1.1, k.cells _ _ h.e2 rfl h1.2.1, k.cells _ _ h.x13 rfl h1.2.2.1, k.cells _ _ h.xk rfl h1.2.2.2, h.l1.keptC8 k hd1, h.l2.keptC8 k hd2⟩
theorem GvB.all {b B1 g b1 b2 b13 bk n : Nat} {N : Int} {dv wv : Value} {D1 D2 : EntD} {W Z : World} (h : GvB b B1 g N dv wv b1 b2 b13 bk D1 D2 n W) (k : KpC (fun _ => True) W Z) : GvB b B1 g N dv wv b1 b2 b13 bk D1 D2 n Z := h.keptC k (fun _ _ _ => trivial) ⟨trivial, trivial, trivial, trivial⟩ (fun _ _ => trivial) (fun _ _ => trivial)
theorem GvB.bsk {w : World} {B1 g b1 b2 b13 bk nb : Nat} {N : Int} {dv wv : Value} {D1 D2 : EntD} (hn : GvN w.heap.size nb b1 b2 b13 bk D1 D2) : BsK w nb (GvB w.heap.size B1 g N dv wv b1 b2 b13 bk D1 D2) := fun n W Z h k =>
 h.keptC k (fun i _ hi => by have := hn.n0; omega) ⟨hn.n1, hn.n2, hn.n13, hn.nk⟩ hn.d1 hn.d2
theorem GvB.setk {b nb B1 g b1 b2 b13 bk n : Nat} {N : Int} {dv wv : Value} {D1 D2 : EntD} {W : World} (hn : GvN b nb b1 b2 b13 bk D1 D2) (h : GvB b B1 g N dv wv b1 b2 b13 bk D1 D2 n W) (m : Nat) : GvB b B1 g N dv wv b1 b2 b13 bk D1 D2 m (W.setCell ⟨bk, 0, none⟩ (.int .i64 (m : Int))) := by
 have f : Fb W (W.setCell ⟨bk, 0, none⟩ (.int .i64 (m : Int))) (fun k => k = bk) := Fb.set1 (O := fun k => k = bk) rfl _
 obtain ⟨n0, n1, n2, n3, n4, n5⟩ := hn.nek
 have k : KpC (fun i => i ≠ bk) W (W.setCell ⟨bk, 0, none⟩ (.int .i64 (m : Int))) := KpC.of_fb f (fun i hi e => hi e)
 exact ⟨k.cells _ _ h.x1 rfl (by omega), k.cells _ _ h.x2 rfl (by omega), k.cells _ _ h.x3 rfl (by omega), k.cells _ _ h.x4 rfl (by omega), k.cells _ _ h.e1 rfl (fun e => n1 e.symm), k.cells _ _ h.e2 rfl (fun e => n2 e.symm), k.cells _ _ h.x13 rfl (fun e => n3 e.symm), h.xk.set _, h.l1.keptC8 k (fun i hi e => n4 i hi e.symm), h.l2.keptC8 k (fun i hi e => n5 i hi e.symm)⟩
theorem gv_start (w : World) (g : Nat) (N : Int) (dv : Value) (e : EntD) : ∃ V, V = ((((w.alloc (.cells e.cells 38)).alloc (.cells #[.int .i64 N] 3)).alloc (.cells #[.pointer (some ⟨g, 0, none⟩)] 32)).alloc (.cells #[dv] 52)).alloc (.cells #[.bool false] 4) ∧ Below w.heap.size w V ∧ V.heap.size = w.heap.size + 5 ∧ EBox V w.heap.size e ∧ Bxd V (w.heap.size + 1) 3 (.int .i64 N) ∧ Bxd V (w.heap.size + 2) 32 (.pointer (some ⟨g, 0, none⟩)) ∧ Bxd V (w.heap.size + 3) 52 dv ∧ Bxd V (w.heap.size + 4) 4 (.bool false) := by
 have x1 := EBox.new w e
 have b1 := (Below.refl w.heap.size w).alloc (Nat.le_refl _) (.cells e.cells 38)
 have s1 : (w.alloc (.cells e.cells 38)).heap.size = w.heap.size + 1 := by simp
 obtain ⟨V1, e1⟩ : ∃ V1, V1 = w.alloc (.cells e.cells 38) := ⟨_, rfl⟩
 rw [← e1] at x1 b1 s1
 obtain ⟨V2, e2, b2, s2, x2⟩ := bxd_new V1 3 (.int .i64 N)
 obtain ⟨V3, e3, b3, s3, x3⟩ := bxd_new V2 32 (.pointer (some ⟨g, 0, none⟩))
 obtain ⟨V4, e4, b4, s4, x4⟩ := bxd_new V3 52 dv
 obtain ⟨V5, e5, b5, s5, x5⟩ := bxd_new V4 4 (.bool false)
 have h3 : V2.heap.size = w.heap.size + 2 := by omega
 have h4 : V3.heap.size = w.heap.size + 3 := by omega
 have h5 : V4.heap.size = w.heap.size + 4 := by omega
 rw [s1] at x2; rw [h3] at x3; rw [h4] at x4; rw [h5] at x5
 have k35 := b4.trans (b5.mono b4.size)
 have k25 := b3.trans (k35.mono b3.size)
 have k15 := b2.trans (k25.mono b2.size)
 have k05 := b1.trans (k15.mono b1.size)
 exact ⟨V5, by rw [e5, e4, e3, e2, e1], k05, by omega, x1.later k15, x2.later8 k25, x3.later8 k35, x4.later8 b5, x5⟩
set_option maxRecDepth 100000 in
set_option maxHeartbeats 8000000 in
theorem pgives_any {w : World} {pB tB g cm : Nat} {X FO : Nat → Prop} {L R : List EntD} {lv : Value} {f : Bool} {fn : Nat} {lb : Array Value} {c : Nat → Nat} {C : Nat → Prop} {J : World → Prop} {e : EntD} {N : Int} (h : Gm w pB tB g X FO L R lv f) (he : EntD.Ok w e) (hD : Doer pB tB g f fn lb c C J) (hJ : J w) (hC : ∀ k, C k → k < w.heap.size ∧ ¬ PlB pB tB X k ∧ ¬ FO k) (hc : L.length ≤ c 0) (hm : ∀ i, c i ≤ cm) (hsz : L.length < 100000) :
  Calls Tryz.prog 30 #[.pointer (some ⟨pB, 0, none⟩), .agg e.cells, .int .i64 N, .pointer (some ⟨g, 0, none⟩), .func (.func fn) #[] lb] w (PlP w pB tB g X FO cm f) := by
 obtain ⟨am, cl, hlv⟩ := h.pl.ref.rd.slice
 obtain ⟨mr, hmr⟩ : ∃ mr, mr = R.length := ⟨_, rfl⟩
 rw [← hmr] at hlv
 subst hlv
 obtain ⟨V1, hV1, bV1, sV1, xe, xn, xf, xd, xr⟩ := gv_start w g N (.func (.func fn) #[] lb) e
 have HV1 := Lib.hid hV1
 unfold EntD.cells at HV1
 have HS := Lib.hid (And.intro h (And.intro hJ (And.intro hC (And.intro hc (And.intro hm hsz)))))
 have HE := Lib.hid he
 have HB1 := Lib.hid (And.intro bV1 (And.intro sV1 (And.intro xe (And.intro xn (And.intro xf (And.intro xd xr))))))
 have hok := he.later bV1
 have hce := xe.cells7
 clear hV1 bV1 sV1 xe xn xf xd xr h hJ hC hc hm hsz he hmr
 unfold EntD.cells
 refine (callsIn_wide (n := 9)).1 ?_
 refine callsIn_of_wp_marks Tryz.func30 rfl trivial ?_ rfl
 simp only [Tryz.ntmps30, List.size_toArray, List.length_cons, List.length_nil, Nat.reduceAdd, Nat.reduceSub, Array.replicate_succ, Array.replicate_zero, List.push_toArray, List.append_toArray, List.nil_append, List.cons_append]
 refine wpIn_wide.2 ?_
 go_upto_region 1 with fail
 simp only [Nat.add_assoc, Nat.reduceAdd]
 rw [← HV1.out]
 refine pgive_region hok hce (Lib.hid ?_)
 intro D1 D2 b1 b2 Z hp
 have HP := Lib.hid hp
 have hsV1 := HB1.out.2.1
 have HbZ := Lib.hid (HB1.out.1.trans (hp.bel.mono HB1.out.1.size))
 have hG := HS.out.1.later HbZ.out
 have hpc := hG.pl.cells
 have hd2 := hp.e2.cells7
 have hok2 : EntD.Ok Z D2 := hp.l2.ok (fine_same8 hp.s2 (EntD.cut_fine HE.out))
 have hf1 : EntD.Fine D1 := fine_same8 hp.s1 (EntD.cut_fine HE.out)
 have hok1 : EntD.Ok Z D1 := hp.l1.ok hf1
 have hAd : Hid (∀ Y, Below Z.heap.size Z Y → Calls Tryz.prog 10 #[.agg #[.slice am mr cl, .bool f], .agg #[D2.vr, .int .i64 D2.fam, D2.vq, .int .i64 D2.ts, .int .i64 D2.seq, .int .i64 D2.kind, D2.vv]] Y (fun z w' => ∃ v, z = .returned v ∧ RdL w' v (R.dropWhile (fun y => decide (compareS y D2 < 0))) ∧ (∀ k, v.ownBlock = some k → (Value.slice am mr cl).ownBlock = some k) ∧ Below Y.heap.size Y w')) := fun Y b => refFrom2_any (HS.out.1.later (HbZ.out.trans (b.mono HbZ.out.size))).pl.ref.rd (hok2.later b)
 have hX : Hid (∀ k, X k → k < Z.heap.size) := hG.pl.lt
 have hR : Hid (RdX X Z (.slice am mr cl) R) := hG.pl.ref
 have HF1 := Lib.hid (And.intro hf1 hok1)
 clear hp hce hok hok2 hf1 hok1 hG
 go_upto_region 2 with fail
 refine pgiv2_region ⟨hpc.2.1, hpc.2.2⟩ hd2 hX hR hAd (Lib.hid ?_)
 intro a' m' k' b13 Z2 h2
 have HA2 := Lib.hid h2
 obtain ⟨Z3, hZ3, bZ3, sZ3, xk⟩ := bxd_new Z2 3 (.int .i64 0)
 have HZ3 := Lib.hid hZ3
 have b03 := (h2.bel.trans (bZ3.mono h2.bel.size))
 have hp3 := (HS.out.1.later (HbZ.out.trans (b03.mono HbZ.out.size))).pl.cells
 have hd1 := (HP.out.e1.later b03).cells7
 have HB3 := Lib.hid (And.intro bZ3 (And.intro sZ3 (And.intro xk b03)))
 have hAf : Hid (∀ Y, Below Z3.heap.size Z3 Y → Calls Tryz.prog 7 #[.pointer (some ⟨tB, 0, none⟩), .agg #[D1.vr, .int .i64 D1.fam, D1.vq, .int .i64 D1.ts, .int .i64 D1.seq, .int .i64 D1.kind, D1.vv]] Y (fun z w' => ∃ Bf x0, z = .returned (.func (.func 25) #[] #[.pointer (some ⟨Y.heap.size, 0, none⟩), .pointer (some ⟨Bf, 0, none⟩)]) ∧ Bxd w' Y.heap.size 25 (.pointer (some ⟨tB, 0, none⟩)) ∧ EBox w' Bf x0 ∧ EntD.Same x0 { D1 with vv := .slice none 0 0, val := [] } ∧ EOk (fun i => Y.heap.size ≤ i) w' x0 ∧ Below Y.heap.size Y w' ∧ Y.heap.size + 2 ≤ w'.heap.size ∧ Y.heap.size + 2 ≤ Bf ∧ Bf < w'.heap.size)) := fun Y b => by
  have hl := HF1.out.1
  exact from_ans2 (HF1.out.2.later (HB3.out.2.2.2.trans (b.mono HB3.out.2.2.2.size))) ⟨by have := hl.1.2; omega, by have := hl.2.1.2; omega⟩
 clear h2 hd2 hAd hX hR hpc hZ3 bZ3 sZ3 xk b03
 go_upto_region 4 with fail
 rw [← HZ3.out]
 refine pgiv4_region hp3.1 hd1 hAf (Lib.hid ?_)
 intro Bt Bf x0 Zs V h4
 have H4 := Lib.hid h4
 clear h4 hp3 hd1 hAf
 rename_i K9 hK9
 refine hK9 _ _ ?_
 refine (wpIn_wide (n := 9)).1 ?_
 obtain ⟨bk, hbk⟩ : ∃ bk, bk = Z2.heap.size := ⟨_, rfl⟩
 rw [← hbk]
 obtain ⟨hG0, hJ0, hC0, hc0, hm0, hsz0⟩ := HS.out
 obtain ⟨bV1, sV1, xe, xn, xf, xd, xr⟩ := HB1.out
 obtain ⟨bZ3, sZ3, xk, b03⟩ := HB3.out
 obtain ⟨k41, k42, k43, k44, k45, k46, k47, k48, k49⟩ := H4.out
 rw [← hbk] at xk sZ3
 have bZV : Below Z.heap.size Z V := b03.trans (k42.mono b03.size)
 have b1V : Below V1.heap.size V1 V := HP.out.bel.trans (bZV.mono HP.out.bel.size)
 have b2V : Below Z2.heap.size Z2 V := bZ3.trans (k42.mono bZ3.size)
 have bwV : Below w.heap.size w V := HbZ.out.trans (bZV.mono HbZ.out.size)
 have hGV := hG0.later bwV
 obtain ⟨p, T, h1, h2, h3⟩ := hGV.pl.tab.tree
 have hsm : Sm (R.dropWhile (fun y => decide (compareS y D2 < 0))) (fromS x0 T) := sm_from hGV.pl.sm h3 hGV.pl.tab.srt k45 (same_cross HP.out.s1 HP.out.s2)
 have hsub : ∀ y ∈ fromS x0 T, y ∈ L := fun y hy => by
  rw [fromS_drop _ _ (by rw [h3]; exact hGV.pl.tab.srt), h3] at hy
  exact (List.dropWhile_suffix _).subset hy
 have hRl : (R.dropWhile (fun y => decide (compareS y D2 < 0))).length ≤ R.length := (List.dropWhile_suffix _).length_le
 have rdV : RdX X V (.slice a' m' k') (R.dropWhile (fun y => decide (compareS y D2 < 0))) := HA2.out.rd.keptC (KpC.of_below b2V)
 obtain ⟨aw, cw, eaw⟩ := rdV.rd.slice
 have hmw : m' = (R.dropWhile (fun y => decide (compareS y D2 < 0))).length := by injection eaw
 have hb1 := HP.out.e1.lt'
 have hb2 := HP.out.e2.lt'
 have hb13 := HA2.out.box.lt
 have hs0 := HP.out.lo
 have hZ2 := HA2.out.bel.size
 have hA2l := HA2.out.lo
 have s3 := k42.size
 have hd1r : ∀ k, D1.blk k → V1.heap.size ≤ k ∧ k < Z.heap.size := fun k hk => HP.out.l1.rng8 hk
 have hd2r : ∀ k, D2.blk k → V1.heap.size ≤ k ∧ k < Z.heap.size := fun k hk => HP.out.l2.rng8 hk
 have hNm : GvN w.heap.size (V.heap.size + 6) b1 b2 b13 bk D1 D2 := ⟨by omega, ⟨by omega, by omega⟩, ⟨by omega, by omega⟩, ⟨by omega, by omega⟩, ⟨by omega, by omega⟩, fun k hk => by have := hd1r k hk; omega, fun k hk => by have := hd2r k hk; omega, by omega, by omega, by omega, by omega, fun k hk => by have := hd1r k hk; omega, fun k hk => by have := hd2r k hk; omega⟩
 have hgv : GvB w.heap.size V1.heap.size g N (.func (.func fn) #[] lb) (.slice a' m' k') b1 b2 b13 bk D1 D2 0 V := ⟨xn.later8 b1V, xf.later8 b1V, xd.later8 b1V, xr.later8 b1V, HP.out.e1.later bZV, HP.out.e2.later bZV, HA2.out.box.later8 b2V, xk.later8 k42, HP.out.l1.later bZV, HP.out.l2.later bZV⟩
 have hKK := GvB.bsk (B1 := V1.heap.size) (g := g) (N := N) (dv := .func (.func fn) #[] lb) (wv := .slice a' m' k') hNm
 have HFi := Lib.hid (And.intro (same_cross HP.out.s1 HP.out.s2) (And.intro HF1.out.1 (fine_same8 HP.out.s2 (EntD.cut_fine HE.out))))
 have HSub := Lib.hid hsub
 have HSm := Lib.hid hsm
 have HMw := Lib.hid (And.intro hmw hRl)
 have HNm := Lib.hid hNm
 have HGd := Lib.hid hGV.pl.tab.good
 have HLn := Lib.hid (show ∀ y ∈ fromS x0 T, y.row.length ≤ 140737488355328 ∧ y.qual.length ≤ 140737488355328 ∧ y.val.length ≤ 140737488355328 from fun y hy => hGV.pl.tab.lens y (hsub y hy))
 have hVb : w.heap.size + 5 ≤ V.heap.size ∧ bk < V.heap.size ∧ w.heap.size ≤ bk := by omega
 clear HP HB1 HB3 H4 HA2 HF1 HV1 HZ3 hsV1 xe xn xf xd xr bV1 sV1 bZ3 sZ3 xk b03 hsub hsm hmw hRl eaw hb1 hb2 hb13 hs0 hZ2 hA2l s3 hd1r hd2r hNm bZV b1V b2V HbZ hbk
 gi_wp2
 refine range_o (w := V) rfl (enters_of Tryz.func25 (by kernel_rfl) rfl) (encs := fun x : EntD => #[.agg x.cells]) (from_seqO k44 (k46.mono (fun _ _ => trivial)) k43 h1 h2 HLn.out) (fun h k => h.trans k) (fun X o o' ho hc => KpO.put o o' (by omega) ho hc) (fun _ => rfl)
  (fun pre W => V.heap.size ≤ W.heap.size ∧ GE w (V.heap.size + 6) pB tB g X FO (R.dropWhile (fun y => decide (compareS y D2 < 0))) (.slice a' m' k') f c J (GvB w.heap.size V1.heap.size g N (.func (.func fn) #[] lb) (.slice a' m' k') b1 b2 b13 bk D1 D2) pre.length W)
  (fun cd st W => cd = .exit 0 ∧ ∃ n, n + 1 = st.length ∧ (n : Int) = N ∧ V.heap.size ≤ W.heap.size ∧ GE w (V.heap.size + 6) pB tB g X FO (R.dropWhile (fun y => decide (compareS y D2 < 0))) (.slice a' m' k') f c J (GvB w.heap.size V1.heap.size g N (.func (.func fn) #[] lb) (.slice a' m' k') b1 b2 b13 bk D1 D2) n W)
  (fun s X h => h.1)
  (fun s W Z hW h tu => ⟨Nat.le_trans h.1 tu.below.size, h.2.turn hD hKK (by omega) tu⟩)
  (fun cd s W Z hW h tu => by
   obtain ⟨k0, n, k1, k2, k3, k4⟩ := h
   exact ⟨k0, n, k1, k2, Nat.le_trans k3 tu.below.size, k4.turn hD hKK (by omega) tu⟩)
  ⟨Nat.le_refl _, X, FO, L, R, _, ⟨⟨hGV, Fb.of_below bwV, fun k hk => .inl hk, fun k hk => .inl hk⟩, rdV, hgv, hD.keep _ _ hJ0 (KpC.of_below bwV), hc0, Nat.zero_le _⟩⟩
  (fun pre x a2 W => ∃ Bx s X' FO' L' R' lv', GI w (V.heap.size + 6) pB tB g X FO (R.dropWhile (fun y => decide (compareS y D2 < 0))) (.slice a' m' k') f c J (GvB w.heap.size V1.heap.size g N (.func (.func fn) #[] lb) (.slice a' m' k') b1 b2 b13 bk D1 D2) pre.length W X' FO' L' R' lv' ∧ EBox W Bx x ∧ V.heap.size + 6 ≤ Bx ∧ NxC (fromS x0 T) (V.heap.size + 2) pre x W ∧ O3 W s x ∧ (V.heap.size + 6 ≤ s ∧ (∀ k, X' k → k < s) ∧ (∀ k, FO' k → k < s)) ∧ a2 = { tmps := List.toArray ((.pointer (some ⟨pB, 0, none⟩) : Value) :: (.agg #[e.vr, .int .i64 e.fam, e.vq, .int .i64 e.ts, .int .i64 e.seq, .int .i64 e.kind, e.vv] : Value) :: (.int .i64 N : Value) :: (.pointer (some ⟨g, 0, none⟩) : Value) :: (.func (.func fn) #[] lb : Value) :: undef :: (.pointer (some ⟨w.heap.size, 0, none⟩) : Value) :: (.pointer (some ⟨w.heap.size + 1, 0, none⟩) : Value) :: (.pointer (some ⟨w.heap.size + 2, 0, none⟩) : Value) :: (.pointer (some ⟨w.heap.size + 3, 0, none⟩) : Value) :: (.pointer (some ⟨w.heap.size + 4, 0, none⟩) : Value) :: (.pointer (some ⟨b1, 0, none⟩) : Value) :: (.pointer (some ⟨b2, 0, none⟩) : Value) :: (.pointer (some ⟨b13, 0, none⟩) : Value) :: (.pointer (some ⟨bk, 0, none⟩) : Value) :: (.pointer (some ⟨Bx, 0, none⟩) : Value) :: (.agg #[e.vr, .int .i64 e.fam, e.vq, .int .i64 e.ts, .int .i64 e.seq, .int .i64 e.kind, e.vv] : Value) :: (.agg #[D1.vr, .int .i64 D1.fam, D1.vq, .int .i64 D1.ts, .int .i64 D1.seq, .int .i64 D1.kind, D1.vv] : Value) :: (.agg #[e.vr, .int .i64 e.fam, e.vq, .int .i64 e.ts, .int .i64 e.seq, .int .i64 e.kind, e.vv] : Value) :: (.agg #[D2.vr, .int .i64 D2.fam, D2.vq, .int .i64 D2.ts, .int .i64 D2.seq, .int .i64 D2.kind, D2.vv] : Value) :: (.pointer (some ⟨pB, 0, none⟩) : Value) :: (.pointer (some ⟨pB, 0, none⟩) : Value) :: (.pointer (some ⟨pB, 1, none⟩) : Value) :: (.agg #[.slice am mr cl, .bool f] : Value) :: (.agg #[D2.vr, .int .i64 D2.fam, D2.vq, .int .i64 D2.ts, .int .i64 D2.seq, .int .i64 D2.kind, D2.vv] : Value) :: (.slice a' m' k' : Value) :: (.pointer (some ⟨pB, 0, none⟩) : Value) :: (.pointer (some ⟨pB, 0, none⟩) : Value) :: (.pointer (some ⟨pB, 0, none⟩) : Value) :: (.pointer (some ⟨tB, 0, none⟩) : Value) :: (.agg #[D1.vr, .int .i64 D1.fam, D1.vq, .int .i64 D1.ts, .int .i64 D1.seq, .int .i64 D1.kind, D1.vv] : Value) :: (.func (.func 25) #[] #[.pointer (some ⟨Bt, 0, none⟩), .pointer (some ⟨Bf, 0, none⟩)] : Value) :: (.agg x.cells : Value) :: undef :: undef :: undef :: undef :: undef :: undef :: undef :: undef :: undef :: undef :: undef :: undef :: undef :: undef :: undef :: undef :: undef :: undef :: undef :: undef :: undef :: undef :: undef :: undef :: undef :: undef :: undef :: undef :: undef :: undef :: undef :: undef :: undef :: undef :: undef :: undef :: undef :: undef :: undef :: undef :: undef :: undef :: undef :: undef :: []), defers := [] })
  (fun pre x a2 _ W Z hW ⟨Bx, s, X', FO', L', R', lv', k0, k1, k2, k3, k4, k5, k6⟩ tu => ⟨Bx, s, X', FO', L', R', lv', k0.turn hD hKK (by omega) tu, tu.cells _ _ k1 rfl, k2, ⟨Nat.le_trans k3.1 tu.below.size, k3.2.1, k3.2.2.keptC tu.toC⟩, k4.turn tu, k5, k6⟩)
  ?assign ?body ?done ?stop (fun cd s X h => h.2.choose_spec.2.2.1)
 case assign =>
  intro l' pre x Wp X0 K hip hi hsX hgd0 hK
  obtain ⟨hnx, ho3, hbe, hB4⟩ := hgd0
  obtain ⟨X', FO', L', R', lv', k⟩ := hip.2
  have hlt1 := k.1.gm.pl.lt
  have hlt2 := fun i hi => (k.1.gm.fc i hi).lt
  have hsX' : V.heap.size + 6 ≤ X0.heap.size := by have := hnx.1; omega
  obtain ⟨vr, fam, vq, ts, seq, kind, vv, row, qual, val⟩ := x
  have r1 : Rd X0 vr row := hnx.2.2.1.1
  have r2 : Rd X0 vq qual := hnx.2.2.2.1.1
  have r3 : Rd X0 vv val := hnx.2.2.2.2.1
  obtain ⟨ar, nr, cr, rfl⟩ := rd_slice r1
  obtain ⟨aq, nq, cq, rfl⟩ := rd_slice r2
  obtain ⟨av, nv, cv, rfl⟩ := rd_slice r3
  have hbb := (Below.refl X0.heap.size X0).alloc (Nat.le_refl _) (.cells (EntD.mk (.slice ar nr cr) fam (.slice aq nq cq) ts seq kind (.slice av nv cv) row qual val).cells 38)
  have tu := Turn.of (B := V.heap.size) hbb (by omega)
  have HAx := Lib.hid (And.intro ((k.later hD hKK hbe).later hD hKK hbb) (And.intro (EBox.new X0 (EntD.mk (.slice ar nr cr) fam (.slice aq nq cq) ts seq kind (.slice av nv cv) row qual val)) (And.intro (show NxC (fromS x0 T) (V.heap.size + 2) pre (EntD.mk (.slice ar nr cr) fam (.slice aq nq cq) ts seq kind (.slice av nv cv) row qual val) (X0.alloc (.cells (EntD.mk (.slice ar nr cr) fam (.slice aq nq cq) ts seq kind (.slice av nv cv) row qual val).cells 38)) from ⟨Nat.le_trans hnx.1 tu.below.size, hnx.2.1, hnx.2.2.keptC tu.toC⟩) (ho3.turn tu))))
  have HT9 := Lib.hid (show KpO X (V.heap.size + 2) X0 (X0.alloc (.cells (EntD.mk (.slice ar nr cr) fam (.slice aq nq cq) ts seq kind (.slice av nv cv) row qual val).cells 38)) from ⟨tu.toC, Oth.of hbb⟩)
  have HI := Lib.hid (And.intro (Nat.le_trans hi.1 tu.below.size) (hi.2.turn hD hKK (B := V.heap.size) (by omega) tu))
  have HL1 := Lib.hid hlt1
  have HL2 := Lib.hid hlt2
  clear hbb tu hi hip hnx ho3 hbe r1 r2 r3 k hlt1 hlt2 hgv rdV hGV h1 h2 k43 k44 k45 k46
  simp only [EntD.cells] at *
  gi_wp2
  exact hK _ _ ((KeepsOthers.alloc _ _).from _) HT9.out HI.out ⟨X0.heap.size, Wp.heap.size, X', FO', L', R', lv', HAx.out.1, HAx.out.2.1, hsX', HAx.out.2.2.1, HAx.out.2.2.2, ⟨by omega, HL1.out, HL2.out⟩, rfl⟩
 case body =>
  rintro l' pre x a2 X0 - ⟨Bx, s, X', FO', L', R', lv', hal, hbx, hBx, hnx, ho3, ⟨hs1, hs2, hs3⟩, rfl⟩
  clear hgv rdV hGV h1 h2 k43 k44 k45 k46
  obtain ⟨n, hn⟩ : ∃ n, n = pre.length := ⟨_, rfl⟩
  rw [← hn] at hal
  have hsm := HSm.out
  obtain ⟨q, hq1, hq2⟩ := hnx.2.1
  have e1 := hq2.len
  have e2 := hq1.length_le
  have e3 := hsm.len
  simp only [List.length_append, List.length_cons, List.length_nil] at e1
  have hnm : n < m' := by have := HMw.out.1; omega
  have kc := hal.2.2.1.xk.cell
  have nc := hal.2.2.1.x1.cell
  by_cases hnN : (n : Int) = N
  ·as_aux_lemma =>
    have HAL := Lib.hid hal
    have HN := Lib.hid hn
    have HX : Hid (V.heap.size ≤ X0.heap.size) := by have := hnx.1; unfold Hid; omega
    clear hal hbx hnx ho3 hBx hs1 hs2 hs3 hq1 hq2 e1 e2 e3 hsm hn
    subst hnN
    gi_wp2
    exact ⟨KeepsFrom.refl _ _, rfl, n, by rw [List.length_append, ← HN.out]; rfl, rfl, HX.out, X', FO', L', R', lv', HAL.out⟩
  ·have hnNb : ((n : Int) == N) = false := by simp; exact hnN
   obtain ⟨y, hy⟩ : ∃ y, (R.dropWhile (fun y => decide (compareS y D2 < 0)))[n]? = some y := ⟨_, List.getElem?_eq_getElem (by have := HMw.out.1; omega)⟩
   have hxy : EntD.Same x y ∧ checkS x = 0 := by
    obtain ⟨x1, z1, k1, k2, k3⟩ := hq2.at (i := n) (by simp; omega)
    obtain ⟨y1, z2, k4, k5, k6⟩ := hsm.at (i := n) (by have := HMw.out.1; omega)
    have kx : x1 = x := by
     rw [hn] at k1
     simpa using k1.symm
    obtain ⟨t, ht⟩ := hq1
    have kz : (fromS x0 T)[n]? = some z1 := by
     rw [← ht, List.getElem?_append_left (by omega)]
     exact k2
    rw [kz] at k5
    cases k5
    rw [hy] at k4
    cases k4
    subst kx
    exact ⟨same_cross k3 k6, lens_good HGd.out k3 (HSub.out _ (List.mem_of_getElem? kz))⟩
   obtain ⟨a0, cap0, ea, -, -, -, -, h5⟩ := hal.2.1.rd
   obtain ⟨hyok, bz, oz, eb, hcs⟩ := h5 n y hy
   have eam : a' = some ⟨bz, oz, none⟩ := by
    injection ea with e4
    rw [e4, eb]
   clear h5 ea eb
   subst eam
   have HSe : Hid (∀ Z, Below X0.heap.size X0 Z → Calls Tryz.prog 11 #[.agg #[x.vr, .int .i64 x.fam, x.vq, .int .i64 x.ts, .int .i64 x.seq, .int .i64 x.kind, x.vv], .agg #[y.vr, .int .i64 y.fam, y.vq, .int .i64 y.ts, .int .i64 y.seq, .int .i64 y.kind, y.vv]] Z fun r w' => r = .returned (.bool true) ∧ Below Z.heap.size Z w') := fun Z b => by
    refine (se_any (hnx.2.2.ok.later b) (hyok.later b)).mono ?_
    rintro r w' ⟨rfl, hb⟩
    exact ⟨by rw [decide_eq_true hxy.1], hb⟩
   have wc := hal.2.2.1.x13.cell
   have xc := hbx.cells7
   have HAL := Lib.hid hal
   have HX := Lib.hid (And.intro hbx (And.intro ho3 (And.intro hnx (And.intro hBx (And.intro hs1 (And.intro hs2 hs3))))))
   have HN := Lib.hid hn
   have HXY := Lib.hid hxy
   have HnN := Lib.hid hnN
   clear hal hbx hnx ho3 hBx hs1 hs2 hs3 hq1 hq2 e1 e2 e3 hsm hn hxy hyok hy
   gi_wp2_with fail
   refine wpIn_eq8 _ (pgiv7_region hnm ⟨kc, wc, xc, hcs⟩ HSe) ?_
   intro Y hbY
   have halY := HAL.out.later hD hKK hbY
   have hbxY := HX.out.1.later hbY
   have hsY : V.heap.size + 6 ≤ Y.heap.size := by have := hbY.size; have := HX.out.2.2.1.1; omega
   have hxb : ∀ k, x.blk k → s ≤ k ∧ k < X0.heap.size := fun k hk => HX.out.2.1.lt k hk
   have HFe := Lib.hid (fentry_any halY.1.gm.fu ((HX.out.2.1.later hbY).e3 HXY.out.2) (fun k hk hf => by have := (hxb k hk).1; have := HX.out.2.2.2.2.2.2 k hf; omega))
   unfold EntD.cells at HFe
   have gc := halY.2.2.1.x2.cell
   obtain ⟨p0, p1, p2, p3, p4, p5, p6⟩ := hbxY.cells7
   have HY := Lib.hid (And.intro halY (And.intro hbY (And.intro hsY hxb)))
   clear halY hbxY hsY hxb hbY kc nc wc xc hcs HSe hnNb hnN
   gi_wp2_with fail
   refine ⟨trivial, ?_⟩
   refine (CallsIn.inRound l' (callsIn_wide.2 HFe.out)).mono ?_
   rintro z Y2 ⟨⟨vv, rfl⟩, fu2, f2⟩
   obtain ⟨FO2, hal2, hf2⟩ := HY.out.1.full (x := x) (s := s) hD hKK hG0 (by omega) HY.out.2.2.1 (fun k hk => ⟨(hC0 k hk).1, (hC0 k hk).2.2⟩) fu2 (f2.mono (fun i _ q => q)) (fun k hk => (HY.out.2.2.2 k hk).1) ⟨HX.out.2.2.2.2.1, HX.out.2.2.2.2.2.1⟩ (fun k hk => by
    rcases hk with q | q | q
    ·exact .inl q
    ·exact .inr (.inl q)
    ·exact .inr (.inr q.1))
   have hsY2 : V.heap.size + 6 ≤ Y2.heap.size := Nat.le_trans HY.out.2.2.1 f2.size
   have hdo := hD.does n Y2 X' FO2 L' R' lv' hal2.2.2.2.1 hal2.1.gm (fun k hk => by
    have hk0 := hC0 k hk
    refine ⟨fun q => ?_, fun q => ?_⟩
    ·rcases q with q | q | q
     ·exact hk0.2.1 (.inl q)
     ·exact hk0.2.1 (.inr (.inl q))
     ·rcases hal2.1.nx k q with q | q
      ·exact hk0.2.1 (.inr (.inr q))
      ·omega
    ·rcases hal2.1.nf k q with q | q
     ·exact hk0.2.2 q
     ·omega) hal2.2.2.2.2.1
   have HDo := Lib.hid hdo
   have hen := hD.enters
   have kc := hal2.2.2.1.xk.cell
   have dc := hal2.2.2.1.x3.cell
   have H2 := Lib.hid (And.intro hal2 (And.intro hf2 (And.intro f2 hsY2)))
   clear hal2 hf2 f2 fu2 hsY2 hdo HFe p0 p1 p2 p3 p4 p5 p6 gc
   gi_wp2_with fail
   refine ⟨trivial, ?_⟩
   refine (CallsIn.inRound l' (callsIn_wide.2 HDo.out)).mono ?_
   rintro z Y3 hpl
   obtain rfl : z = .returned (.bool true) := hpl.1
   obtain ⟨X3, FO3, L3, R3, lv3, ⟨rc3, rd3, al3, j3, l3⟩, f3⟩ := H2.out.1.did hD hKK hG0 (by omega) H2.out.2.2.2 hC0 hpl
   have kc := al3.xk.cell
   have kf := al3.xk.fz
   have hn100 : n < 100000 := by have := hG0.pl.sm.len; have := HMw.out.1; have := HMw.out.2; omega
   have HWn : Hid (IntKind.i64.wrap ((n : Int) + 1) = ((n + 1 : Nat) : Int)) := by
    have := wrap_ok ((n : Int) + 1) (by omega) (by omega)
    unfold Hid; rw [this]; simp
   have H3 := Lib.hid (And.intro rc3 (And.intro rd3 (And.intro al3 (And.intro j3 (And.intro l3 f3)))))
   clear rc3 rd3 al3 j3 l3 f3 hpl HDo hen dc
   gi_wp2
   have hrd := GI.round (B := V.heap.size + 2) (B2 := V.heap.size) (bk := bk) hD hG0 HAL.out HY.out.2.1 H2.out.2.2.1 H2.out.2.1 H3.out.2.2.2.2.2 ⟨H3.out.1, H3.out.2.1, H3.out.2.2.1, H3.out.2.2.2.1, H3.out.2.2.2.2.1⟩ HX.out.2.1 HX.out.2.2.2.2.1 ⟨by omega, by omega⟩ HAL.out.2.2.1.xk.cellsAt (fun W hW => hW.setk HNm.out (n + 1)) (by omega) (by have := HMw.out.1; omega) (fun k hk => (hC0 k hk).1)
   have hlen : (pre ++ [x]).length = n + 1 := by rw [List.length_append, ← HN.out]; rfl
   have ecast : (n : Int) + 1 = ((n + 1 : Nat) : Int) := by simp
   rw [ecast]
   refine ⟨hrd.1, hrd.2.1, by have := H2.out.2.2.2; have := H3.out.2.2.2.2.2.size; rw [World.size_setCell]; omega, ?_⟩
   rw [hlen]
   exact hrd.2.2
 case done =>
  rintro D xs X0 hDd hsmx ⟨hsz, X', FO', L', R', lv', hal⟩ hdf
  have e1 := hsmx.len
  have e2 := HSm.out.len
  have hxs : xs.length = m' := by have := HMw.out.1; omega
  rw [hxs] at hal
  clear hxs e1 e2 hsmx hgv rdV hGV h1 h2 k43 k44 k45 k46
  have l1 := hal.2.2.1.l1
  have l2 := hal.2.2.1.l2
  have HSt := Lib.hid (stands8_any l1 (l2.ok HFi.out.2.2) HFi.out.1 HFi.out.2.1)
  obtain ⟨p0, p1, p2, p3, p4, p5, p6⟩ := hal.2.2.1.e1.cells7
  obtain ⟨q0, q1, q2, q3, q4, q5, q6⟩ := hal.2.2.1.e2.cells7
  have HAL := Lib.hid hal
  have HDf := Lib.hid hdf
  clear hal hdf l1 l2
  unfold EntD.cells at HSt
  skip
  go_wp2_with fail
  refine HSt.out.mono ?_
  rintro z X1 ⟨rfl, bX1⟩
  have HA1 := Lib.hid (HAL.out.later hD hKK bX1)
  have HD1 : Hid (X1.heap[D]? = some (.deferred (some []))) := (bX1.block D (Array.getElem?_eq_some_iff.1 HDf.out).1).trans HDf.out
  have kc := HA1.out.2.2.1.xk.cell
  have nc := HA1.out.2.2.1.x1.cell
  have wc := HA1.out.2.2.1.x13.cell
  have rc := HA1.out.2.2.1.x4.cell
  have rf := HA1.out.2.2.1.x4.fz
  clear bX1 p0 p1 p2 p3 p4 p5 p6 q0 q1 q2 q3 q4 q5 q6 HSt
  go_wp2
  obtain ⟨t1, t2, t3⟩ := AlI.leave (X0 := X1) (D := D) (c := c) (C := C) (J := J) (fn := fn) (lb := lb) (dv := .func (.func fn) #[] lb) (n := m') hG0 HA1.out.1 (q := w.heap.size + 4) ⟨by omega, by omega⟩ (by omega) (by omega) HD1.out rfl HA1.out.2.2.1.x4 true
  have hdf' : (X1.setCell ⟨w.heap.size + 4, 0, none⟩ (.bool true)).heap[D]? = some (.deferred (some [])) := (Below.heap_setCell _ _ _ _ (show D ≠ w.heap.size + 4 by omega)).trans HD1.out
  refine ⟨by simp, .inl ⟨_, _, rfl, run_takeDeferred hdf', ?_⟩⟩
  exact ⟨.bool true, by simp [results, Tryz.results30, go_sem, t1], rfl, X', FO', L', R', lv', t2, t3, Nat.le_trans HA1.out.2.2.2.2.1 (hm0 _)⟩
 case stop =>
  rintro D cd pre X0 hDd hsp ⟨rfl, n, hn1, hnN, hsz, X', FO', L', R', lv', hal⟩ hdf
  have hnm : n < m' := by
   obtain ⟨q, hq1, hq2⟩ := hsp
   have e1 := hq2.len
   have e2 := hq1.length_le
   have e3 := HSm.out.len
   have := HMw.out.1
   omega
  have hne : ¬ ((n : Int) = (m' : Int)) := by omega
  have hne2 : (n : Int) < (m' : Int) := by omega
  subst hnN
  clear hsp hn1 hgv rdV hGV h1 h2 k43 k44 k45 k46
  have l1 := hal.2.2.1.l1
  have l2 := hal.2.2.1.l2
  have HSt := Lib.hid (stands8_any l1 (l2.ok HFi.out.2.2) HFi.out.1 HFi.out.2.1)
  obtain ⟨p0, p1, p2, p3, p4, p5, p6⟩ := hal.2.2.1.e1.cells7
  obtain ⟨q0, q1, q2, q3, q4, q5, q6⟩ := hal.2.2.1.e2.cells7
  have HAL := Lib.hid hal
  have HDf := Lib.hid hdf
  clear hal hdf l1 l2
  unfold EntD.cells at HSt
  gi_wp2
  go_wp2_with fail
  refine HSt.out.mono ?_
  rintro z X1 ⟨rfl, bX1⟩
  have HA1 := Lib.hid (HAL.out.later hD hKK bX1)
  have HD1 : Hid (X1.heap[D]? = some (.deferred (some []))) := (bX1.block D (Array.getElem?_eq_some_iff.1 HDf.out).1).trans HDf.out
  have kc := HA1.out.2.2.1.xk.cell
  have nc := HA1.out.2.2.1.x1.cell
  have wc := HA1.out.2.2.1.x13.cell
  have rc := HA1.out.2.2.1.x4.cell
  have rf := HA1.out.2.2.1.x4.fz
  clear bX1 p0 p1 p2 p3 p4 p5 p6 q0 q1 q2 q3 q4 q5 q6 HSt
  go_wp2
  obtain ⟨t1, t2, t3⟩ := AlI.leave (X0 := X1) (D := D) (c := c) (C := C) (J := J) (fn := fn) (lb := lb) (dv := .func (.func fn) #[] lb) (n := m') hG0 HA1.out.1 (q := w.heap.size + 4) ⟨by omega, by omega⟩ (by omega) (by omega) HD1.out rfl HA1.out.2.2.1.x4 true
  have hdf' : (X1.setCell ⟨w.heap.size + 4, 0, none⟩ (.bool true)).heap[D]? = some (.deferred (some [])) := (Below.heap_setCell _ _ _ _ (show D ≠ w.heap.size + 4 by omega)).trans HD1.out
  refine ⟨by simp, .inl ⟨_, _, rfl, run_takeDeferred hdf', ?_⟩⟩
  exact ⟨.bool true, by simp [results, Tryz.results30, go_sem, t1], rfl, X', FO', L', R', lv', t2, t3, Nat.le_trans HA1.out.2.2.2.2.1 (hm0 _)⟩
end Go.Proofs.YtpabbnddeklpdaaGreat

namespace Go.Proofs.YtpabbnddeklpdaaGreat
open Go.RowKit Go.Shelf
set_option linter.unusedVariables false
set_option linter.unusedSimpArgs false

def EntD.blkN (e : EntD) (k : Nat) : Prop := (e.vr.ownBlock = some k ∧ e.row ≠ []) ∨ (e.vq.ownBlock = some k ∧ e.qual ≠ []) ∨ (e.vv.ownBlock = some k ∧ e.val ≠ [])
theorem Rd.keptN {w w' : World} {v : Value} {bs : List Nat} {G : Nat → Prop} (h : Rd w v bs) (k : KpC G w w') (hG : ∀ i, v.ownBlock = some i → bs ≠ [] → G i) : Rd w' v bs := by
 obtain ⟨h1, a, cap, rfl, h3, h4, h5, h6, h7⟩ := h
 refine ⟨h1, a, cap, rfl, h3, h4, h5, h6, ?_⟩
 rcases h7 with h7 | ⟨b, off, rfl, hc⟩
 ·exact .inl h7
 ·refine .inr ⟨b, off, rfl, fun i hi => k.cell (hG b rfl (fun e => ?_)) (hc i hi)⟩
  subst e
  simp at hi
theorem Rd.ltN {w : World} {v : Value} {bs : List Nat} (h : Rd w v bs) : ∀ i, v.ownBlock = some i → bs ≠ [] → i < w.heap.size := by
 obtain ⟨h1, a, cap, rfl, h3, h4, h5, h6, h7⟩ := h
 intro i hi hne
 rcases h7 with h7 | ⟨b, off, rfl, hc⟩
 ·exact absurd h7 (by simpa using hne)
 ·simp only [Value.ownBlock, Option.some.injEq] at hi
  subst hi
  exact World.block_lt_of_cell? _ _ (hc 0 (List.length_pos_iff.2 hne))
structure OkG (G : Nat → Prop) (w : World) (e : EntD) : Prop where
 ok : EntD.Ok w e
 bl : ∀ k, e.blkN k → G k
theorem OkG.keptC {G : Nat → Prop} {w w' : World} {e : EntD} (h : OkG G w e) (k : KpC G w w') : OkG G w' e :=
 ⟨⟨h.ok.1.keptN k (fun i hi hn => h.bl i (.inl ⟨hi, hn⟩)), h.ok.2.1.keptN k (fun i hi hn => h.bl i (.inr (.inl ⟨hi, hn⟩))), h.ok.2.2.keptN k (fun i hi hn => h.bl i (.inr (.inr ⟨hi, hn⟩)))⟩, h.bl⟩
theorem OkG.mono {G G' : Nat → Prop} {w : World} {e : EntD} (h : OkG G w e) (hg : ∀ k, G k → G' k) : OkG G' w e := ⟨h.ok, fun k hk => hg k (h.bl k hk)⟩
theorem EntD.Ok.ltN {w : World} {e : EntD} (h : EntD.Ok w e) : ∀ k, e.blkN k → k < w.heap.size := by
 rintro k (⟨a, b⟩ | ⟨a, b⟩ | ⟨a, b⟩)
 ·exact h.1.ltN k a b
 ·exact h.2.1.ltN k a b
 ·exact h.2.2.ltN k a b
structure StepD where
 k : Int
 o : Bool
 e : EntD
 g : EntD
 n : Int
def StepD.cells (s : StepD) : Array Value := #[.int .i64 s.k, .bool s.o, s.e.vr, .int .i64 s.e.fam, s.e.vq, .int .i64 s.e.ts, .int .i64 s.e.seq, .int .i64 s.e.kind, s.e.vv, s.g.vr, .int .i64 s.g.fam, s.g.vq, .int .i64 s.g.ts, .int .i64 s.g.seq, .int .i64 s.g.kind, s.g.vv, .int .i64 s.n]
def SBox (w : World) (b : Nat) (s : StepD) : Prop := w.heap[b]? = some (.cells s.cells 40 (0, 0))
theorem SBox.c {w : World} {b : Nat} {s : StepD} (h : SBox w b s) {i : Nat} {v : Value} (hv : s.cells[i]? = some v) : w.cell? ⟨b, i, none⟩ = some v := by
 unfold SBox at h
 simp only [World.cell?, h]
 exact hv
theorem SBox.lt {w : World} {b : Nat} {s : StepD} (h : SBox w b s) : b < w.heap.size := (Array.getElem?_eq_some_iff.1 h).1
theorem SBox.later {w w' : World} {b : Nat} {s : StepD} (h : SBox w b s) (k : Below w.heap.size w w') : SBox w' b s := (k.block b h.lt).trans h
theorem SBox.all {w : World} {b : Nat} {s : StepD} (h : SBox w b s) : w.cell? ⟨b, 0, none⟩ = some (.int .i64 s.k) ∧ w.cell? ⟨b, 16, none⟩ = some (.int .i64 s.n) ∧ (w.cell? ⟨b, 2, none⟩ = some s.e.vr ∧ w.cell? ⟨b, 3, none⟩ = some (.int .i64 s.e.fam) ∧ w.cell? ⟨b, 4, none⟩ = some s.e.vq ∧ w.cell? ⟨b, 5, none⟩ = some (.int .i64 s.e.ts) ∧ w.cell? ⟨b, 6, none⟩ = some (.int .i64 s.e.seq) ∧ w.cell? ⟨b, 7, none⟩ = some (.int .i64 s.e.kind) ∧ w.cell? ⟨b, 8, none⟩ = some s.e.vv) ∧ (w.cell? ⟨b, 9, none⟩ = some s.g.vr ∧ w.cell? ⟨b, 10, none⟩ = some (.int .i64 s.g.fam) ∧ w.cell? ⟨b, 11, none⟩ = some s.g.vq ∧ w.cell? ⟨b, 12, none⟩ = some (.int .i64 s.g.ts) ∧ w.cell? ⟨b, 13, none⟩ = some (.int .i64 s.g.seq) ∧ w.cell? ⟨b, 14, none⟩ = some (.int .i64 s.g.kind) ∧ w.cell? ⟨b, 15, none⟩ = some s.g.vv) :=
 ⟨h.c rfl, h.c rfl, ⟨h.c rfl, h.c rfl, h.c rfl, h.c rfl, h.c rfl, h.c rfl, h.c rfl⟩, h.c rfl, h.c rfl, h.c rfl, h.c rfl, h.c rfl, h.c rfl, h.c rfl⟩
structure Cap8 (w : World) (sB bP bF pB g : Nat) (s : StepD) (SE : Nat → Prop) : Prop where
 sb : SBox w sB s
 pb : Bxd w bP 24 (.pointer (some ⟨pB, 0, none⟩))
 fb : Bxd w bF 32 (.pointer (some ⟨g, 0, none⟩))
 og : OkG SE w s.g
theorem Cap8.keptC {w w' : World} {sB bP bF pB g : Nat} {s : StepD} {SE : Nat → Prop} (h : Cap8 w sB bP bF pB g s SE) (k : KpC (fun i => i = sB ∨ i = bP ∨ i = bF ∨ SE i) w w') : Cap8 w' sB bP bF pB g s SE :=
 ⟨k.cells _ _ h.sb rfl (.inl rfl), k.cells _ _ h.pb rfl (.inr (.inl rfl)), k.cells _ _ h.fb rfl (.inr (.inr (.inl rfl))), h.og.keptC (k.mono (fun i hi => .inr (.inr (.inr hi))))⟩
theorem PlP.refl {w w' : World} {pB tB g n : Nat} {X FO : Nat → Prop} {L R : List EntD} {lv : Value} {f : Bool} (h : Gm w pB tB g X FO L R lv f) (b : Below w.heap.size w w') (hn : L.length ≤ n) : PlP w pB tB g X FO n f (.returned (.bool true)) w' := ⟨rfl, X, FO, L, R, lv, h.later b, GoTo.below b, hn⟩
theorem PlP.mono {w w' : World} {pB tB g n m : Nat} {X FO : Nat → Prop} {f : Bool} {z : Ending} (h : PlP w pB tB g X FO n f z w') (hm : n ≤ m) : PlP w pB tB g X FO m f z w' := by
 obtain ⟨h1, X', FO', L', R', lv', h2, h3, h4⟩ := h
 exact ⟨h1, X', FO', L', R', lv', h2, h3, Nat.le_trans h4 hm⟩
set_option maxRecDepth 100000 in
theorem nothing_any (i : Int) (w : World) : Calls Tryz.prog 17 #[.int .i64 i] w fun e w' => e = .returned (.bool true) ∧ w' = w := by
 go_enter Tryz.func17, Tryz.ntmps17
 go_wp2
 go_ret
 exact ⟨rfl, rfl⟩
theorem nothing_doer (pB tB g m : Nat) (f : Bool) : Doer pB tB g f 17 #[] (fun _ => m) (fun _ => False) (fun _ => True) := by
 refine ⟨enters_of Tryz.func17 (by kernel_rfl) rfl, fun _ _ _ _ => trivial, fun i w X FO L R lv _ h _ hl => ?_⟩
 refine Calls.mono (nothing_any (i : Int) w) ?_
 rintro z w' ⟨rfl, rfl⟩
 exact PlP.refl h (Below.refl _ _) hl
set_option maxRecDepth 100000 in
set_option maxHeartbeats 4000000 in
theorem step1_any {w : World} {pB tB g n sB bP bF i : Nat} {X FO SE : Nat → Prop} {L R : List EntD} {lv : Value} {f : Bool} {s : StepD} (hc : Cap8 w sB bP bF pB g s SE) (h : Gm w pB tB g X FO L R lv f) (hn : if (i : Int) = s.n then L.length + 1 ≤ n else L.length ≤ n) (hsz : n < 1000000) :
  Calls Tryz.prog 31 #[.int .i64 (i : Int), .pointer (some ⟨sB, 0, none⟩), .pointer (some ⟨bP, 0, none⟩), .pointer (some ⟨bF, 0, none⟩)] w (PlP w pB tB g X FO n f) := by
 obtain ⟨c0, c1, c2, g0, g1, g2, g3, g4, g5, g6⟩ := hc.sb.all
 have pc := hc.pb.cell
 have fc := hc.fb.cell
 have HC := Lib.hid hc
 have HG := Lib.hid h
 clear hc h c0 c2
 by_cases hi : (i : Int) = s.n
 ·rw [if_pos hi] at hn
  have HAd := Lib.hid (padd_any HG.out HC.out.og.ok hn hsz)
  unfold EntD.cells at HAd
  have HN := Lib.hid hi
  rw [← hi] at c1
  clear hn hi
  go_enter Tryz.func31, Tryz.ntmps31
  go_wp2_with fail
  refine HAd.out.mono ?_
  rintro z w' hp
  obtain rfl : z = .returned (.bool true) := hp.1
  have HP := Lib.hid hp
  clear hp
  go_wp2
  go_ret
  exact HP.out
 ·rw [if_neg hi] at hn
  have hi' : ((i : Int) == s.n) = false := by simp; exact hi
  have HN := Lib.hid hn
  clear hn
  go_enter Tryz.func31, Tryz.ntmps31
  go_wp2
  go_ret
  exact PlP.refl HG.out (Below.refl _ _) HN.out
set_option maxRecDepth 100000 in
set_option maxHeartbeats 4000000 in
theorem step2_any {w : World} {pB tB g n sB bP bF i : Nat} {X FO SE : Nat → Prop} {L R : List EntD} {lv : Value} {f : Bool} {s : StepD} (hc : Cap8 w sB bP bF pB g s SE) (h : Gm w pB tB g X FO L R lv f) (hn : L.length ≤ n) (hsz : n < 100000) :
  Calls Tryz.prog 33 #[.int .i64 (i : Int), .pointer (some ⟨sB, 0, none⟩), .pointer (some ⟨bP, 0, none⟩), .pointer (some ⟨bF, 0, none⟩)] w (PlP w pB tB g X FO n f) := by
 obtain ⟨c0, c1, c2, g0, g1, g2, g3, g4, g5, g6⟩ := hc.sb.all
 have pc := hc.pb.cell
 have fc := hc.fb.cell
 have HC := Lib.hid hc
 have HG := Lib.hid h
 clear hc h c0 c2 g0 g1 g2 g3 g4 g5 g6
 by_cases hi : (i : Int) = s.n
 ·have HAd := Lib.hid (pall_any (C := fun _ => False) (J := fun _ => True) HG.out (nothing_doer pB tB g n f) trivial (fun _ h => h.elim) hn (by omega))
  have HN := Lib.hid hi
  rw [← hi] at c1
  clear hn hi
  go_enter Tryz.func33, Tryz.ntmps33
  go_wp2_with fail
  refine HAd.out.mono ?_
  rintro z w' hp
  obtain rfl : z = .returned (.bool true) := hp.1
  have HP := Lib.hid hp
  clear hp
  go_wp2
  go_ret
  exact HP.out
 ·have hi' : ((i : Int) == s.n) = false := by simp; exact hi
  have HN := Lib.hid hn
  clear hn
  go_enter Tryz.func33, Tryz.ntmps33
  go_wp2
  go_ret
  exact PlP.refl HG.out (Below.refl _ _) HN.out
theorem step1_doer {pB tB g m sB bP bF : Nat} {SE : Nat → Prop} {f : Bool} {s : StepD} (hm : m + 1 < 100000) : Doer pB tB g f 31 #[.pointer (some ⟨sB, 0, none⟩), .pointer (some ⟨bP, 0, none⟩), .pointer (some ⟨bF, 0, none⟩)] (fun i => if s.n < (i : Int) then m + 1 else m) (fun i => i = sB ∨ i = bP ∨ i = bF ∨ SE i) (fun w => Cap8 w sB bP bF pB g s SE) := by
 refine ⟨enters_of Tryz.func31 (by kernel_rfl) rfl, fun _ _ h k => h.keptC k, fun i w X FO L R lv hc h _ hl => ?_⟩
 refine step1_any hc h ?_ ?_
 ·repeat' split
  all_goals (repeat' split at hl)
  all_goals omega
 ·split <;> omega
theorem step2_doer {pB tB g m sB bP bF : Nat} {SE : Nat → Prop} {f : Bool} {s : StepD} (hm : m < 100000) : Doer pB tB g f 33 #[.pointer (some ⟨sB, 0, none⟩), .pointer (some ⟨bP, 0, none⟩), .pointer (some ⟨bF, 0, none⟩)] (fun _ => m) (fun i => i = sB ∨ i = bP ∨ i = bF ∨ SE i) (fun w => Cap8 w sB bP bF pB g s SE) :=
 ⟨enters_of Tryz.func33 (by kernel_rfl) rfl, fun _ _ h k => h.keptC k, fun i w X FO L R lv hc h _ hl => step2_any hc h hl hm⟩
end Go.Proofs.YtpabbnddeklpdaaGreat
