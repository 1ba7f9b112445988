import Derived.Test.YtpabbnddeklpdaaGreatK25
namespace Go.Proofs.YtpabbnddeklpdaaGreat
open Go.RowKit Go.Shelf
set_option linter.unusedVariables false

def TwK (W : World) (aB bB g n lo : Nat) (K : Nat → Prop) (tA : Nat) : Prop := ∃ (tB : Nat) (XA XB FO : Nat → Prop) (LA RA : List EntD) (lA : Value) (fA : Bool) (LB RB : List EntD) (lB : Value) (fB : Bool), Duo W aB tA bB tB g XA XB FO LA RA lA fA LB RB lB fB ∧ LA.length ≤ n ∧ LB.length ≤ n ∧ (∀ k, (PlB aB tA XA k ∨ PlB bB tB XB k ∨ FO k) → lo ≤ k) ∧ ∀ k, K k → k < W.heap.size ∧ ¬ (PlB aB tA XA k ∨ PlB bB tB XB k ∨ FO k)
variable {W W' : World} {aB bB g n lo tA : Nat} {K : Nat → Prop}
theorem TwK.tw (h : TwK W aB bB g n lo K tA) : Tw W aB bB g n lo := by
 obtain ⟨tB, XA, XB, FO, LA, RA, lA, fA, LB, RB, lB, fB, h, h1, h2, h3, h4⟩ := h
 exact ⟨tA, tB, XA, XB, FO, LA, RA, lA, fA, LB, RB, lB, fB, h, h1, h2, h3⟩
theorem Duo.all_lt {tA tB : Nat} {XA XB FO : Nat → Prop} {LA RA LB RB : List EntD} {lA lB : Value} {fA fB : Bool} (h : Duo W aB tA bB tB g XA XB FO LA RA lA fA LB RB lB fB) : ∀ k, (PlB aB tA XA k ∨ PlB bB tB XB k ∨ FO k) → k < W.heap.size := by
 rintro k (q | q | q)
 ·exact h.a.all_lt k q
 ·exact h.b.all_lt k q
 ·exact (h.fc k q).lt
theorem TwK.mono {m : Nat} (h : TwK W aB bB g n lo K tA) (hm : n ≤ m) : TwK W aB bB g m lo K tA := by
 obtain ⟨tB, XA, XB, FO, LA, RA, lA, fA, LB, RB, lB, fB, h, h1, h2, h3, h4⟩ := h
 exact ⟨tB, XA, XB, FO, LA, RA, lA, fA, LB, RB, lB, fB, h, Nat.le_trans h1 hm, Nat.le_trans h2 hm, h3, h4⟩
theorem TwK.fst (h : TwK W aB bB g n lo K tA) : ∃ (X FO : Nat → Prop) (L R : List EntD) (lv : Value) (f : Bool), Gm W aB tA g X FO L R lv f ∧ L.length ≤ n ∧ (∀ k, (PlB aB tA X k ∨ FO k) → lo ≤ k ∧ ¬ K k) ∧
  ∀ (W' : World) (X' FO' : Nat → Prop) (L' R' : List EntD) (lv' : Value) (f' : Bool) (m : Nat), n ≤ m → Gm W' aB tA g X' FO' L' R' lv' f' → GoTo W W' aB tA X FO X' FO' → L'.length ≤ m → TwK W' aB bB g m lo K tA := by
 obtain ⟨tB, XA, XB, FO, LA, RA, lA, fA, LB, RB, lB, fB, h, h1, h2, h3, h4⟩ := h
 refine ⟨XA, FO, LA, RA, lA, fA, h.gm, h1, fun k hk => ⟨h3 k (hk.imp id .inr), fun e => (h4 k e).2 (hk.imp id .inr)⟩, fun W' X' FO' L' R' lv' f' m hm gm go hl => ⟨tB, X', XB, FO', L', R', lv', f', LB, RB, lB, fB, h.step gm go, hl, Nat.le_trans h2 hm, fun k hk => ?_, fun k hk => ⟨Nat.lt_of_lt_of_le (h4 k hk).1 go.fb.size, fun e => ?_⟩⟩⟩
 ·have hs : lo ≤ W.heap.size := by have := h3 aB (.inl (.inl rfl)); have := h.a.plt; omega
  rcases hk with (q | q | q) | q | q
  ·exact h3 k (.inl (.inl q))
  ·exact h3 k (.inl (.inr (.inl q)))
  ·rcases go.nx k q with q | q
   ·exact h3 k (.inl (.inr (.inr q)))
   ·omega
  ·exact h3 k (.inr (.inl q))
  ·rcases go.nf k q with q | q
   ·exact h3 k (.inr (.inr q))
   ·omega
 ·have hk4 := h4 k hk
  rcases e with (q | q | q) | q | q
  ·exact hk4.2 (.inl (.inl q))
  ·exact hk4.2 (.inl (.inr (.inl q)))
  ·rcases go.nx k q with q | q
   ·exact hk4.2 (.inl (.inr (.inr q)))
   ·omega
  ·exact hk4.2 (.inr (.inl q))
  ·rcases go.nf k q with q | q
   ·exact hk4.2 (.inr (.inr q))
   ·omega
theorem Tw.keepK (h : Tw W aB bB g n lo) (hA : W.cell? ⟨aB, 0, none⟩ = some (.pointer (some ⟨tA, 0, none⟩))) {Y K : Nat → Prop} {X6 : World} (b6 : Below W.heap.size W X6) (hY : ∀ k, Y k → W.heap.size ≤ k) (hK : ∀ k, K k → W.heap.size ≤ k ∧ k < X6.heap.size ∧ ¬ Y k) :
  ∃ FO, FuB X6 g FO ∧ (∀ k, FO k → lo ≤ k ∧ k < W.heap.size ∧ CellsAt X6 k) ∧
  ∀ (X7 : World) (F2 : Nat → Prop), FuB X7 g F2 → Fb X6 X7 (fun k => FO k ∨ Y k) → (∀ k, F2 k → FO k ∨ Y k ∨ X6.heap.size ≤ k) → TwK X7 aB bB g n lo K tA := by
 obtain ⟨tA', tB, XA, XB, FO, LA, RA, lA, fA, LB, RB, lB, fB, h, h1, h2, h3⟩ := h
 have hq := h.a.cells.1
 rw [hA] at hq
 cases hq
 clear hA
 have h6 := h.keptC (H := fun _ => True) (KpC.of_below b6) (fun _ _ => trivial)
 have hlo : lo ≤ W.heap.size := by have := h3 aB (.inl (.inl rfl)); have := h.a.plt; omega
 have hs6 := b6.size
 refine ⟨FO, h6.fu, fun k hk => ⟨h3 k (.inr (.inr hk)), (h.fc k hk).lt, h6.fc k hk⟩, fun X7 F2 f1 f2 f3 => ?_⟩
 have hs7 := f2.size
 obtain ⟨FO2, gm, hF2⟩ := h6.gm.full f1 f2 (fun k hk e => by have := hY k hk; have := h.a.all_lt k e; omega) f3
 have hB : ∀ k, PlB bB tB XB k → k < W.heap.size := h.b.all_lt
 have hA : ∀ k, PlB aB tA XA k → k < W.heap.size := h.a.all_lt
 have nF : ∀ k, FO2 k → FO k ∨ W.heap.size ≤ k := fun k hk => by
  rcases hF2 k hk with q | q | q
  ·exact .inl q
  ·exact .inr (hY k q)
  ·exact .inr (by omega)
 refine ⟨tB, XA, XB, FO2, LA, RA, lA, fA, LB, RB, lB, fB, ⟨gm.pl, h6.b.keptC (H := PlB bB tB XB) (KpC.of_fb f2 (fun k hk e => ?_)) (fun _ h => h), gm.fu, gm.fc, gm.ap, fun k hk e => ?_, h.ab⟩, h1, h2, fun k hk => ?_, fun k hk => ⟨by have := hK k hk; omega, fun e => ?_⟩⟩
 ·rcases e with e | e
  ·exact h.bf k hk e
  ·have := hY k e; have := hB k hk; omega
 ·rcases nF k e with q | q
  ·exact h.bf k hk q
  ·have := hB k hk; omega
 ·rcases hk with q | q | q
  ·exact h3 k (.inl q)
  ·exact h3 k (.inr (.inl q))
  ·rcases nF k q with q | q
   ·exact h3 k (.inr (.inr q))
   ·omega
 ·have hk1 := hK k hk
  rcases e with q | q | q
  ·have := hA k q; omega
  ·have := hB k q; omega
  ·rcases hF2 k q with q | q | q
   ·have := (h.fc k q).lt; omega
   ·exact hk1.2.2 q
   ·omega
theorem TwK.keptC {H : Nat → Prop} (h : TwK W aB bB g n lo K tA) (k : KpC H W W') (hH : ∀ i, lo ≤ i → i < W.heap.size → H i) : TwK W' aB bB g n lo K tA := by
 obtain ⟨tB, XA, XB, FO, LA, RA, lA, fA, LB, RB, lB, fB, h, h1, h2, h3, h4⟩ := h
 exact ⟨tB, XA, XB, FO, LA, RA, lA, fA, LB, RB, lB, fB, h.keptC k (fun i hi => hH i (h3 i hi) (h.all_lt i hi)), h1, h2, h3, fun i hi => ⟨Nat.lt_of_lt_of_le (h4 i hi).1 k.size, (h4 i hi).2⟩⟩
theorem RdG.rng {G : Nat → Prop} {w : World} {v : Value} {bs : List Nat} (h : RdG G w v bs) : RdG (fun i => G i ∧ i < w.heap.size) w v bs :=
 ⟨h.1, fun b off m c e hm => ⟨⟨(h.2 b off m c e hm).1, by obtain ⟨cur, fr, hc⟩ := (h.2 b off m c e hm).2; exact (Array.getElem?_eq_some_iff.1 hc).1⟩, (h.2 b off m c e hm).2⟩⟩
theorem EOk.rng {G : Nat → Prop} {w : World} {e : EntD} (h : EOk G w e) : EOk (fun i => G i ∧ i < w.heap.size) w e := ⟨h.1.rng, h.2.1.rng, h.2.2.rng⟩
theorem E3.cellsAt {w : World} {D : EntD} (h : E3 w D) : ∀ k, D.blk k → CellsAt w k := by
 intro k hk
 rcases hk with hk | hk | hk
 ·obtain ⟨a, n, c, xs, e, -, o⟩ := h.r
  obtain ⟨_, cur, hc⟩ := own_at o.2 (e ▸ hk)
  exact ⟨_, hc, rfl⟩
 ·obtain ⟨a, n, c, xs, e, -, o⟩ := h.q
  obtain ⟨_, cur, hc⟩ := own_at o.2 (e ▸ hk)
  exact ⟨_, hc, rfl⟩
 ·obtain ⟨a, n, c, xs, e, -, o⟩ := h.v
  obtain ⟨_, cur, hc⟩ := own_at o.2 (e ▸ hk)
  exact ⟨_, hc, rfl⟩
structure KeepB (A B dB Bt Bf tA : Nat) (D2 x0 : EntD) (W : World) : Prop where
 eb : EBox W dB D2
 ld : LaidE W A D2
 bt : Bxd W Bt 25 (.pointer (some ⟨tA, 0, none⟩))
 bf : EBox W Bf x0
 ok : EOk (fun k => A ≤ k ∧ k < B) W x0
 inn : (A ≤ dB ∧ dB < B) ∧ (A ≤ Bt ∧ Bt < B) ∧ (A ≤ Bf ∧ Bf < B) ∧ ∀ k, D2.blk k → A ≤ k ∧ k < B
theorem KeepB.keptC {A B dB Bt Bf tA : Nat} {D2 x0 : EntD} {W Z : World} (h : KeepB A B dB Bt Bf tA D2 x0 W) (k : KpC (fun k => A ≤ k ∧ k < B) W Z) : KeepB A B dB Bt Bf tA D2 x0 Z :=
 ⟨k.cells _ _ h.eb rfl h.inn.1, h.ld.keptC8 k h.inn.2.2.2, k.cells _ _ h.bt rfl h.inn.2.1, k.cells _ _ h.bf rfl h.inn.2.2.1, h.ok.keptC k, h.inn⟩
end Go.Proofs.YtpabbnddeklpdaaGreat
