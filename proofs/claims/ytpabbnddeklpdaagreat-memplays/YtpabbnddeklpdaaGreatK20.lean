import Derived.Test.YtpabbnddeklpdaaGreatK19
namespace Go.Proofs.YtpabbnddeklpdaaGreat
open Go.RowKit Go.Shelf
set_option linter.unusedVariables false
set_option linter.unusedSimpArgs false

theorem Own.take8 {w : World} {B n c k : Nat} {a : Option Addr} {xs : List Nat} (h : Own w B (.slice a n c) n xs) (hk : k ≤ n) : Own w B (.slice a k c) k (xs.take k) := by
 have hl : (xs.take k).length = k := by rw [List.length_take, ← h.1]; omega
 refine ⟨hl.symm, by rw [bv_length, hl]; omega, ?_⟩
 rcases h.2.2 with ⟨h1, h2⟩ | ⟨g, cap, cur, h3, h4, h5, h6, h7, h8, h9⟩
 ·simp only [Value.slice.injEq] at h1
  obtain ⟨rfl, -, rfl⟩ := h1
  have : k = 0 := by omega
  subst this
  exact .inl ⟨rfl, rfl⟩
 ·simp only [Value.slice.injEq] at h3
  obtain ⟨rfl, -, rfl⟩ := h3
  refine .inr ⟨g, c, cur, rfl, h4, h5, by omega, h7, h8, ?_⟩
  have e : cur.toList.take (k * 1) = (cur.toList.take (n * 1)).take (k * 1) := by rw [List.take_take, Nat.min_eq_left (by omega)]
  rw [e, h9]
  unfold bv
  rw [← List.map_take, Nat.mul_one]
theorem LaidE.rng8 {w : World} {B k : Nat} {D : EntD} (h : LaidE w B D) (hk : D.blk k) : B ≤ k ∧ k < w.heap.size := by
 rcases hk with q | q | q
 ·exact h.1.own_lt k q
 ·exact h.2.1.own_lt k q
 ·exact h.2.2.own_lt k q
theorem Laid.own08 {w : World} {B : Nat} {u : Value} {bs : List Nat} (h : Laid w B u bs) (hl : bs.length ≤ 5000) : ∃ a n c xs, u = .slice a n c ∧ n ≤ 200000 ∧ Own w 0 (.slice a n c) n xs := by
 obtain ⟨g, c, rfl, h2, h3, o⟩ := h
 refine ⟨_, _, _, bs, rfl, by omega, ?_⟩
 have o1 := (o.mono (Nat.zero_le _)).take8 (show bs.length ≤ bs.length + 75 by omega)
 rw [List.append_assoc, List.take_left] at o1
 exact o1
theorem LaidE.e38 {w : World} {B : Nat} {D : EntD} (h : LaidE w B D) (f : EntD.Fine D) (a : ApE D) : E3 w D := ⟨h.1.own08 f.1.2, h.2.1.own08 f.2.1.2, h.2.2.own08 f.2.2.2, a.1, a.2.1, a.2.2⟩
theorem RBx.set1c {w : World} {b : Nat} {v : Value} {f : Bool} (h : RBx w b v f) (g : Bool) : RBx (w.setCell ⟨b, 1, none⟩ (.bool g)) b v g := by
 unfold RBx at *
 simp [World.setCell, Array.getElem?_modify, h]
theorem fine_same8 {a b : EntD} (s : EntD.Same a b) (h : EntD.Fine b) : EntD.Fine a := h.same s
theorem same_cross {a b c : EntD} (h : EntD.Same a c) (k : EntD.Same b c) : EntD.Same a b := by
 unfold EntD.Same at *
 obtain ⟨h1, h2, h3, h4, h5, h6, h7⟩ := h
 obtain ⟨k1, k2, k3, k4, k5, k6, k7⟩ := k
 exact ⟨h1.trans k1.symm, h2.trans k2.symm, h3.trans k3.symm, h4.trans k4.symm, h5.trans k5.symm, h6.trans k6.symm, h7.trans k7.symm⟩
theorem Pl.set {w : World} {pB tB : Nat} {X : Nat → Prop} {L R : List EntD} {lv : Value} {f : Bool} (h : Pl w pB tB X L R lv f) (u : Value) (g : Bool) : ((w.setCell ⟨pB, 1, none⟩ u).setCell ⟨pB, 2, none⟩ (.bool g)).heap[pB]? = some (.cells #[.pointer (some ⟨tB, 0, none⟩), u, .bool g] 31 (0, 0)) := by
 have hb := h.box
 have h1 : (w.setCell ⟨pB, 1, none⟩ u).heap[pB]? = some (.cells #[.pointer (some ⟨tB, 0, none⟩), u, .bool f] 31 (0, 0)) := by
  simp [World.setCell, Array.getElem?_modify, hb]
 simp [World.setCell, Array.getElem?_modify, hb]
theorem Gm.added {w Z Z2 Z3 Z4 : World} {pB tB g : Nat} {X FO : Nat → Prop} {L R L' R' : List EntD} {lv lv' : Value} {f : Bool} (h : Gm w pB tB g X FO L R lv f)
  (bZ : Below w.heap.size w Z) (b2 : Below Z.heap.size Z Z2) (a3 : Apart tB Z2 Z3) (tb : Tb (fun k => X k ∨ Z2.heap.size ≤ k) Z3 tB L' ((pk L' : Nat) : Int) f)
  (rd : RdX (fun k => X k ∨ Z.heap.size ≤ k) Z2 lv' R') (rl : ∀ k, lv'.ownBlock = some k → X k ∨ (Z.heap.size ≤ k ∧ k < Z2.heap.size)) (sm : Sm R' L')
  (b4 : Below Z3.heap.size Z3 Z4) :
  ∃ X', Gm ((Z4.setCell ⟨pB, 1, none⟩ lv').setCell ⟨pB, 2, none⟩ (.bool f)) pB tB g X' FO L' R' lv' f ∧ GoTo w ((Z4.setCell ⟨pB, 1, none⟩ lv').setCell ⟨pB, 2, none⟩ (.bool f)) pB tB X FO X' FO ∧ ∀ k, X' k → X k ∨ Z.heap.size ≤ k := by
 have hpl := h.pl.plt
 have htl := h.pl.tlt
 have hs1 := bZ.size
 have hs2 := b2.size
 have hs3 := a3.size
 have hs4 := b4.size
 have hw2 : Below w.heap.size w Z2 := bZ.trans (b2.mono bZ.size)
 have htn : ¬ (X tB ∨ Z2.heap.size ≤ tB) := fun e => by
  rcases e with e | e
  ·exact h.pl.tab.not e
  ·omega
 -- the frame from w to Z4
 have f24 : Fb Z2 Z4 (fun k => k = tB) := (Fb.of_apart (O := fun k => k = tB) a3 rfl).trans (Fb.of_below b4)
 have fw4 : Fb w Z4 (fun k => k = tB) := (Fb.of_below hw2).trans' f24 hw2.size (fun i _ e => e)
 have fs : Fb Z4 ((Z4.setCell ⟨pB, 1, none⟩ lv').setCell ⟨pB, 2, none⟩ (.bool f)) (fun k => k = pB) := (Fb.set1F (O := fun k => k = pB) (g := pB) rfl 1 lv').trans (Fb.set1F (O := fun k => k = pB) (g := pB) rfl 2 _)
 have fw5 : Fb w ((Z4.setCell ⟨pB, 1, none⟩ lv').setCell ⟨pB, 2, none⟩ (.bool f)) (fun k => k = pB ∨ k = tB ∨ FO k) := (fw4.mono (fun i _ e => .inr (.inl e))).trans (fs.mono (fun i _ e => .inl e))
 obtain ⟨Z5, hZ5⟩ : ∃ Z5, Z5 = (Z4.setCell ⟨pB, 1, none⟩ lv').setCell ⟨pB, 2, none⟩ (.bool f) := ⟨_, rfl⟩
 have hbx : Z4.heap[pB]? = some (.cells #[.pointer (some ⟨tB, 0, none⟩), lv, .bool f] 31 (0, 0)) := (fw4.block pB hpl h.pl.pt).trans h.pl.box
 have hbx5 : Z5.heap[pB]? = some (.cells #[.pointer (some ⟨tB, 0, none⟩), lv', .bool f] 31 (0, 0)) := by
  have h1 : (Z4.setCell ⟨pB, 1, none⟩ lv').heap[pB]? = some (.cells #[.pointer (some ⟨tB, 0, none⟩), lv', .bool f] 31 (0, 0)) := by
   simp [World.setCell, Array.getElem?_modify, hbx]
  rw [hZ5]
  simp [World.setCell, Array.getElem?_modify, hbx]
 rw [← hZ5] at fs fw5 ⊢
 have hs5 := fs.size
 -- the blocks
 refine ⟨fun k => (X k ∨ Z.heap.size ≤ k) ∧ k < Z3.heap.size, ⟨⟨hbx5, ?_, ?_, sm, fun k hk => by have := hk.2; omega, fun hh => ?_, h.pl.pt⟩, ?_, ?_, ?_⟩, ⟨fw5, fun k hk => ?_, fun k hk => .inl hk⟩, fun k hk => hk.1⟩
 ·-- the table
  have t1 := tb.capX.monoX (G' := fun k => (X k ∨ Z.heap.size ≤ k) ∧ k < Z3.heap.size) (fun i hi => ⟨hi.1.imp id (fun e => by omega), hi.2⟩) (fun e => by
   rcases e.1 with e | e
   ·exact h.pl.tab.not e
   ·omega)
  have t2 := t1.keptC (H := fun _ => True) (KpC.of_below b4) trivial (fun _ _ => trivial)
  exact t2.keptC (H := fun k => k ≠ pB) (KpC.of_fb fs (fun k hk e => hk e)) (fun e => h.pl.pt e.symm) (fun i hi e => by
   subst e
   rcases hi.1 with e | e
   ·exact h.pl.np e
   ·omega)
 ·-- the list
  have r1 := rd.lt (fun k hk => by
   rcases rl k hk with e | e
   ·have := h.pl.lt k e; omega
   ·exact e.2)
  have r2 := r1.keptC (w' := Z4) (KpC.of_fb f24 (fun k hk e => by
   subst e
   rcases hk.1 with e | e
   ·exact h.pl.tab.not e
   ·omega))
  have r3 := r2.keptC (w' := Z5) (KpC.of_fb fs (fun k hk e => by
   subst e
   rcases hk.1 with e | e
   ·exact h.pl.np e
   ·omega))
  exact r3.mono (fun i hi => ⟨hi.1, by have := hi.2; omega⟩)
 ·rcases hh.1 with e | e
  ·exact h.pl.np e
  ·omega
 ·exact h.fu.keptC h.fc (KpC.of_fb (G := FO) fw4 (fun k hk e => h.ap k (.inr (.inl e)) hk)) (fun _ h => h) |>.keptC (fun k hk => (h.fc k hk).kept (KpC.of_fb (G := FO) fw4 (fun k hk e => h.ap k (.inr (.inl e)) hk)) hk) (KpC.of_fb (G := FO) fs (fun k hk e => h.ap k (.inl e) hk)) (fun _ h => h)
 ·exact fun k hk => ((h.fc k hk).kept (KpC.of_fb (G := FO) fw4 (fun k hk e => h.ap k (.inr (.inl e)) hk)) hk).kept (KpC.of_fb (G := FO) fs (fun k hk e => h.ap k (.inl e) hk)) hk
 ·rintro k (e | e | e) hf
  ·exact h.ap k (.inl e) hf
  ·exact h.ap k (.inr (.inl e)) hf
  ·rcases e.1 with e | e
   ·exact h.ap k (.inr (.inr e)) hf
   ·have := (h.fc k hf).lt; omega
 ·rcases hk.1 with e | e
  ·exact .inl e
  ·exact .inr (by omega)
theorem Gm.full {w w' : World} {pB tB g : Nat} {X FO FO' Y : Nat → Prop} {L R : List EntD} {lv : Value} {f : Bool} (h : Gm w pB tB g X FO L R lv f)
  (hf : FuB w' g FO') (hb : Fb w w' (fun k => FO k ∨ Y k)) (hY : ∀ k, Y k → ¬ PlB pB tB X k) (hF : ∀ k, FO' k → FO k ∨ Y k ∨ w.heap.size ≤ k) :
  ∃ FO2, Gm w' pB tB g X FO2 L R lv f ∧ ∀ k, FO2 k → FO k ∨ Y k ∨ w.heap.size ≤ k := by
 have hlt : ∀ k, PlB pB tB X k → k < w.heap.size := by
  rintro k (e | e | e)
  ·have := h.pl.plt; omega
  ·have := h.pl.tlt; omega
  ·exact h.pl.lt k e
 refine ⟨_, ⟨h.pl.keptC (H := PlB pB tB X) (KpC.of_fb hb (fun k hk e => ?_)) (fun _ h => h), hf.cells, fun k hk => hk.2, fun k hk e => ?_⟩, fun k hk => hF k hk.1⟩
 ·rcases e with e | e
  ·exact h.ap k hk e
  ·exact hY k e hk
 ·rcases hF k e.1 with q | q | q
  ·exact h.ap k hk q
  ·exact hY k q hk
  ·have := hlt k hk; omega
end Go.Proofs.YtpabbnddeklpdaaGreat

namespace Go.Proofs.YtpabbnddeklpdaaGreat
open Go.RowKit Go.Shelf
set_option linter.unusedVariables false

structure RC (w Wd : World) (nb pB tB g : Nat) (X FO X' FO' : Nat → Prop) (L R : List EntD) (lv : Value) (f : Bool) : Prop where
 gm : Gm Wd pB tB g X' FO' L R lv f
 fb : Fb w Wd (fun k => k = pB ∨ k = tB ∨ FO k)
 nx : ∀ k, X' k → X k ∨ nb ≤ k
 nf : ∀ k, FO' k → FO k ∨ nb ≤ k
variable {w Wd Z : World} {nb pB tB g : Nat} {X FO X' FO' X2 FO2 : Nat → Prop} {L R L2 R2 : List EntD} {lv lv2 : Value} {f : Bool}
theorem RC.turn {B : Nat} (h : RC w Wd nb pB tB g X FO X' FO' L R lv f) (hB : w.heap.size ≤ B) (t : Turn B Wd Z) : RC w Z nb pB tB g X FO X' FO' L R lv f :=
 ⟨h.gm.turn t, ⟨t.below.os.trans h.fb.os, t.below.tape.trans h.fb.tape, t.below.output.trans h.fb.output, Nat.le_trans h.fb.size t.below.size, fun k hk ho => (t.below.block k (by omega)).trans (h.fb.block k hk ho)⟩, h.nx, h.nf⟩
theorem RC.later (h : RC w Wd nb pB tB g X FO X' FO' L R lv f) (b : Below Wd.heap.size Wd Z) : RC w Z nb pB tB g X FO X' FO' L R lv f :=
 ⟨h.gm.later b, h.fb.trans' (O' := fun _ => False) (Fb.of_below b) h.fb.size (fun i _ e => e.elim), h.nx, h.nf⟩
theorem RC.step (h : RC w Wd nb pB tB g X FO X' FO' L R lv f) (hw : w.heap.size ≤ nb) (hz : nb ≤ Wd.heap.size) (gm : Gm Z pB tB g X2 FO2 L2 R2 lv2 f) (go : GoTo Wd Z pB tB X' FO' X2 FO2) : RC w Z nb pB tB g X FO X2 FO2 L2 R2 lv2 f := by
 refine ⟨gm, h.fb.trans' go.fb h.fb.size (fun i hi e => ?_), fun k hk => ?_, fun k hk => ?_⟩
 ·rcases e with e | e | e
  ·exact .inl e
  ·exact .inr (.inl e)
  ·rcases h.nf i e with q | q
   ·exact .inr (.inr q)
   ·omega
 ·rcases go.nx k hk with q | q
  ·exact h.nx k q
  ·exact .inr (by omega)
 ·rcases go.nf k hk with q | q
  ·exact h.nf k q
  ·exact .inr (by omega)
theorem RC.full {Y F2 : Nat → Prop} (h : RC w Wd nb pB tB g X FO X' FO' L R lv f) (hw : w.heap.size ≤ nb) (hz : nb ≤ Wd.heap.size) (hf : FuB Z g F2) (hb : Fb Wd Z (fun k => FO' k ∨ Y k)) (hY : ∀ k, Y k → nb ≤ k ∧ ¬ X' k) (hF : ∀ k, F2 k → FO' k ∨ Y k ∨ Wd.heap.size ≤ k)
  (hp : pB < w.heap.size ∧ tB < w.heap.size) : ∃ FO2, RC w Z nb pB tB g X FO X' FO2 L R lv f ∧ (∀ k, FO2 k → FO' k ∨ Y k ∨ Wd.heap.size ≤ k) := by
 obtain ⟨FO2, h1, h2⟩ := h.gm.full hf hb (fun k hk e => by
  have := hY k hk
  rcases e with e | e | e
  ·omega
  ·omega
  ·exact this.2 e) hF
 refine ⟨FO2, ⟨h1, h.fb.trans' hb h.fb.size (fun i hi e => ?_), h.nx, fun k hk => ?_⟩, h2⟩
 ·rcases e with e | e
  ·rcases h.nf i e with q | q
   ·exact .inr (.inr q)
   ·omega
  ·have := (hY i e).1; omega
 ·rcases h2 k hk with q | q | q
  ·exact h.nf k q
  ·exact .inr (hY k q).1
  ·exact .inr (by omega)
theorem kpo_of {X0 W' : World} {C G : Nat → Prop} {B : Nat} (f : Fb X0 W' C) (hc : ∀ k, C k → k < X0.heap.size → CellsAt X0 k) (hg : ∀ k, C k → ¬ G k ∧ ¬ (B ≤ k ∧ k < B + 4)) : KpO G B X0 W' :=
 ⟨KpC.of_fb f (fun k hk e => hk.elim (hg k e).1 (hg k e).2), f.size, fun i o hB hi hn => by
  have hl := (Array.getElem?_eq_some_iff.1 hi).1
  refine (f.block i hl (fun e => ?_)).trans hi
  obtain ⟨o', h1, h2⟩ := hc i e hl
  rw [hi] at h1
  cases h1
  rw [hn] at h2
  cases h2⟩
theorem keeps_of {X0 W' : World} {C : Nat → Prop} {B : Nat} (f : Fb X0 W' C) (hc : ∀ k, C k → k < X0.heap.size → CellsAt X0 k) : KeepsFrom B X0 W' :=
 (show Oth B X0 W' from ⟨f.size, fun i o hB hi hn => by
  have hl := (Array.getElem?_eq_some_iff.1 hi).1
  refine (f.block i hl (fun e => ?_)).trans hi
  obtain ⟨o', h1, h2⟩ := hc i e hl
  rw [hi] at h1
  cases h1
  rw [hn] at h2
  cases h2⟩).keeps
structure Doer (pB tB g : Nat) (f : Bool) (fn : Nat) (lb : Array Value) (c : Nat → Nat) (C : Nat → Prop) (J : World → Prop) : Prop where
 enters : ∀ args w, (callFunc fn args).run Tryz.prog w = .ok (.enter fn args) w
 keep : ∀ w w', J w → KpC C w w' → J w'
 does : ∀ (i : Nat) (w : World) (X FO : Nat → Prop) (L R : List EntD) (lv : Value), J w → Gm w pB tB g X FO L R lv f → (∀ k, C k → ¬ PlB pB tB X k ∧ ¬ FO k) → L.length ≤ c i → Calls Tryz.prog fn (#[.int .i64 (i : Int)] ++ lb) w (PlP w pB tB g X FO (c (i + 1)) f)
theorem lens_good {L : List EntD} (h : ∀ x ∈ L, checkS x = 0) {x y : EntD} (hs : EntD.Same x y) (hy : y ∈ L) : checkS x = 0 := (checkS_same hs).trans (h y hy)
theorem O3.e3 {w : World} {b : Nat} {D : EntD} (h : O3 w b D) (hc : checkS D = 0) : E3 w D := by
 have c := check_facts hc
 obtain ⟨h1, h2, h3, a1, a2, a3⟩ := h
 have z : ∀ {v : Value} {xs : List Nat}, Own w b v xs.length xs → xs.length ≤ 200000 → ∃ a n c xs', v = .slice a n c ∧ n ≤ 200000 ∧ Own w 0 (.slice a n c) n xs' := fun {v xs} ho hl => by
  obtain ⟨a, cc, rfl⟩ : ∃ a cc, v = .slice a xs.length cc := by
   rcases ho.2.2 with ⟨rfl, h0⟩ | ⟨g, cap, cur, rfl, _⟩
   ·exact ⟨_, _, by rw [h0]⟩
   ·exact ⟨_, _, rfl⟩
  exact ⟨_, _, _, xs, rfl, hl, ho.mono (Nat.zero_le _)⟩
 exact ⟨z h1 (by omega), z h2 (by omega), z h3 (by omega), a1, a2, a3⟩
end Go.Proofs.YtpabbnddeklpdaaGreat

namespace Go.Proofs.YtpabbnddeklpdaaGreat
open Go.RowKit Go.Shelf
set_option linter.unusedVariables false
set_option linter.unusedSimpArgs false
attribute [local go_sem] Oper.semAt_some

def noDefer8 (ops : Array Oper) : Bool := ops.toList.all fun o => match o.op with | .defer _ => false | _ => true
theorem noDefer_spec8 {ops : Array Oper} (h : noDefer8 ops = true) {i : Nat} {o : Oper} (ho : ops[i]? = some o) : ∀ c, o.op ≠ .defer c := by
 intro c e
 have hm : o ∈ ops.toList := List.mem_of_getElem? (i := i) (by simpa using ho)
 have := List.all_eq_true.1 h o hm
 rw [e] at this
 cases this
theorem upon_in8 {l n : Nat} {P : Program} {o : Oper} {a : Act} {K K' : Act → World → Prop} {Q : Exit → Act → World → Prop} (hK : ∀ a w, K a w → K' a w) : ∀ r, o.upon P a K Q r → o.uponIn (Fence.wide.inRound l) n P a K' Q r := by
 intro r h
 cases r with
 | ok nx w' =>
  cases nx with
  | value v => exact hK _ _ h
  | skip => exact hK _ _ h
  | defer d => exact hK _ _ h
  | enter f args =>
   have h' : CallsIn (Fence.wide.inRound l) (n - 1) P f args w' _ := CallsIn.inRound l (callsIn_wide.2 h)
   refine ⟨fun hh => (by cases hh), h'.mono ?_⟩
   intro e w k
   cases e with
   | returned v => exact hK _ _ k
   | panicked c => exact k
   | outgrown => exact k
  | row row args => exact ⟨fun hh => (by cases hh), fun c cs _ => let ⟨v, w', r, s⟩ := h c cs; ⟨v, w', hK _ _ r, stepsIn_wide.2 s⟩⟩
  | _ => exact h.elim
 | halt hl w' =>
  cases hl with
  | panic v => exact h
  | _ => exact h.elim
theorem opIn8 {l n i : Nat} {P : Program} {ops : Array Oper} {a : Act} {w : World} {K K' : Act → World → Prop} {Q : Exit → Act → World → Prop} (hd : noDefer8 ops = true) (hq : ¬ LetsOut Q) (hK : ∀ a w, K a w → K' a w) (h : wpOp P ops Q i K a w) : wpOpIn (Fence.wide.inRound l) n P ops Q i K' a w := by
 unfold wpOp at h
 unfold wpOpIn
 split
 ·rename_i ho
  simp only [ho] at h
  exact hK _ _ h
 ·rename_i o ho
  simp only [ho] at h
  split
  ·rename_i hw
   simp only [hw, if_true] at h
   rcases h with h | ⟨_, h⟩
   ·refine ⟨fun _ _ => trivial, ?_⟩
    have e : o.semAt (Fence.wide.inRound l).round a.eval = execOp a.eval o := Oper.semAt_some l _ _ (noDefer_spec8 hd ho)
    rw [e]
    exact upon_in8 hK _ h
   ·exact absurd h hq
  ·rename_i hw
   simp only [hw] at h
   exact ⟨fun _ _ => trivial, hK _ _ h⟩
theorem anyIn8 {l n : Nat} {P : Program} {md : Region.Mode} {ops : Array Oper} {Q : Exit → Act → World → Prop} (hd : noDefer8 ops = true) (hq : ¬ LetsOut Q) : ∀ (fuel : Nat) (listed : Array Bool) (a : Act) (w : World), wpAny P md ops Q fuel listed a w → wpAnyIn (Fence.wide.inRound l) n P md ops Q fuel listed a w
 | 0, _, _, _, h => h
 | fuel + 1, _, _, _, h => ⟨h.1, fun i hi => opIn8 hd hq (fun a w k => anyIn8 hd hq fuel _ a w k) (h.2 i hi)⟩
theorem wpIn_eq8 {F : Fence} {n : Nat} {P : Program} {c : Code} {Q : Exit → Act → World → Prop} {a : Act} {w : World} (Fr : Act) (h1 : c.wpIn F n P (fun e a' w' => match e with | .normal => a' = Fr ∧ Below w.heap.size w w' | _ => False) a w) (h2 : ∀ w', Below w.heap.size w w' → Q .normal Fr w') : c.wpIn F n P Q a w := by
 refine wpIn_mono h1 ?_
 intro e a' w' h
 cases e with
 | normal => obtain ⟨rfl, hb⟩ := h; exact h2 _ hb
 | panic c => exact h.elim
 | ret => exact h.elim
 | exit id => exact h.elim
 | goto t => exact h.elim
 | outgrown => exact h.elim
def pall5Ops : Array Oper := #[{ dst := some 21, op := Op.load 3 (Operand.tmp 8), type := 3, pos := "law.go:201", after := #[], guard := none }, { dst := some 22, op := Op.load 27 (Operand.tmp 7), type := 27, pos := "law.go:201", after := #[], guard := none }, { dst := some 23, op := Op.call { callee := Callee.builtin Builtin.len, args := #[Operand.tmp 22], argTypes := #[27] }, type := 3, pos := "law.go:201", after := #[{ on := 1, ground := Ground.data }], guard := none }, { dst := some 24, op := Op.binOp BinOp.geq 3 (Operand.tmp 21) (Operand.tmp 23) 3, type := 4, pos := "law.go:201", after := #[{ on := 0, ground := Ground.data }, { on := 2, ground := Ground.data }], guard := none }, { dst := some 25, op := Op.move (Operand.tmp 24), type := 4, pos := "law.go:201", after := #[{ on := 3, ground := Ground.data }], guard := none }, { dst := some 26, op := Op.load 38 (Operand.tmp 9), type := 38, pos := "law.go:201", after := #[{ on := 4, ground := Ground.guard }], guard := some (4, false) }, { dst := some 27, op := Op.load 27 (Operand.tmp 7), type := 27, pos := "law.go:201", after := #[{ on := 4, ground := Ground.guard }], guard := some (4, false) }, { dst := some 28, op := Op.load 3 (Operand.tmp 8), type := 3, pos := "law.go:201", after := #[{ on := 4, ground := Ground.guard }], guard := some (4, false) }, { dst := some 29, op := Op.indexAddr 27 (Operand.tmp 27) (Operand.tmp 28), type := 0, pos := "law.go:201", after := #[{ on := 6, ground := Ground.data }, { on := 7, ground := Ground.data }, { on := 4, ground := Ground.guard }], guard := some (4, false) }, { dst := some 30, op := Op.load 38 (Operand.tmp 29), type := 38, pos := "law.go:201", after := #[{ on := 8, ground := Ground.data }, { on := 4, ground := Ground.guard }], guard := some (4, false) }, { dst := some 31, op := Op.call { callee := Callee.value (Operand.func 11), args := #[Operand.tmp 26, Operand.tmp 30], argTypes := #[38, 38] }, type := 4, pos := "law.go:201", after := #[{ on := 5, ground := Ground.data }, { on := 9, ground := Ground.data }, { on := 4, ground := Ground.chain }, { on := 4, ground := Ground.guard }], guard := some (4, false) }, { dst := some 32, op := Op.unOp UnOp.not 4 (Operand.tmp 31), type := 4, pos := "law.go:201", after := #[{ on := 10, ground := Ground.data }, { on := 4, ground := Ground.guard }], guard := some (4, false) }, { dst := some 33, op := Op.pick (Operand.tmp 25) (Operand.const (Value.bool true)) (Operand.tmp 32), type := 4, pos := "law.go:201", after := #[{ on := 4, ground := Ground.data }, { on := 11, ground := Ground.data }], guard := none }]
set_option maxRecDepth 100000 in
set_option maxHeartbeats 16000000 in
theorem pall5_region {l' : Nat} {X : World} {bk bw bx bz oz cap mz n : Nat} {x y : EntD} {s0 s1 s2 s3 s4 s5 s6 s10 s11 s12 s13 s14 s15 s16 s17 s18 s19 s20 s21 s22 s23 s24 s25 s26 s27 s28 s29 s30 s31 s32 s33 s34 s35 s36 s37 s38 s39 s40 s41 s42 s43 s44 s45 s46 : Value} (hn : n < mz)
  (hK : X.cell? ⟨bk, 0, none⟩ = some (.int .i64 (n : Int)) ∧ X.cell? ⟨bw, 0, none⟩ = some (.slice (some ⟨bz, oz, none⟩) mz cap) ∧ (X.cell? ⟨bx, 0, none⟩ = some (x.vr) ∧ X.cell? ⟨bx, 1, none⟩ = some (.int .i64 x.fam) ∧ X.cell? ⟨bx, 2, none⟩ = some (x.vq) ∧ X.cell? ⟨bx, 3, none⟩ = some (.int .i64 x.ts) ∧ X.cell? ⟨bx, 4, none⟩ = some (.int .i64 x.seq) ∧ X.cell? ⟨bx, 5, none⟩ = some (.int .i64 x.kind) ∧ X.cell? ⟨bx, 6, none⟩ = some (x.vv)) ∧ (X.cell? ⟨bz, oz + n * 7, none⟩ = some (y.vr) ∧ X.cell? ⟨bz, oz + n * 7 + 1, none⟩ = some (.int .i64 y.fam) ∧ X.cell? ⟨bz, oz + n * 7 + 2, none⟩ = some (y.vq) ∧ X.cell? ⟨bz, oz + n * 7 + 3, none⟩ = some (.int .i64 y.ts) ∧ X.cell? ⟨bz, oz + n * 7 + 4, none⟩ = some (.int .i64 y.seq) ∧ X.cell? ⟨bz, oz + n * 7 + 5, none⟩ = some (.int .i64 y.kind) ∧ X.cell? ⟨bz, oz + n * 7 + 6, none⟩ = some (y.vv)))
  (hSe : Hid (∀ Z, Below X.heap.size X Z → Calls Tryz.prog 11 #[.agg #[x.vr, .int .i64 x.fam, x.vq, .int .i64 x.ts, .int .i64 x.seq, .int .i64 x.kind, x.vv], .agg #[y.vr, .int .i64 y.fam, y.vq, .int .i64 y.ts, .int .i64 y.seq, .int .i64 y.kind, y.vv]] Z fun r w' => r = .returned (.bool true) ∧ Below Z.heap.size Z w')) :
  (Code.region 5 pall5Ops true).wpIn (Fence.wide.inRound l') 9 Tryz.prog (fun e a' w' => match e with | .normal => a' = (⟨#[s0, s1, s2, s3, s4, s5, s6, .pointer (some ⟨bw, 0, none⟩), .pointer (some ⟨bk, 0, none⟩), .pointer (some ⟨bx, 0, none⟩), s10, s11, s12, s13, s14, s15, s16, s17, s18, s19, s20, .int .i64 (n : Int), .slice (some ⟨bz, oz, none⟩) mz cap, .int .i64 (mz : Int), .bool false, .bool false, .agg #[x.vr, .int .i64 x.fam, x.vq, .int .i64 x.ts, .int .i64 x.seq, .int .i64 x.kind, x.vv], .slice (some ⟨bz, oz, none⟩) mz cap, .int .i64 (n : Int), .pointer (some ⟨bz, oz + n * 7, none⟩), .agg #[y.vr, .int .i64 y.fam, y.vq, .int .i64 y.ts, .int .i64 y.seq, .int .i64 y.kind, y.vv], .bool true, .bool false, .bool false, s34, s35, s36, s37, s38, s39, s40, s41, s42, s43, s44, s45, s46], []⟩ : Act) ∧ Below X.heap.size X w' | _ => False) (⟨#[s0, s1, s2, s3, s4, s5, s6, .pointer (some ⟨bw, 0, none⟩), .pointer (some ⟨bk, 0, none⟩), .pointer (some ⟨bx, 0, none⟩), s10, s11, s12, s13, s14, s15, s16, s17, s18, s19, s20, s21, s22, s23, s24, s25, s26, s27, s28, s29, s30, s31, s32, s33, s34, s35, s36, s37, s38, s39, s40, s41, s42, s43, s44, s45, s46], []⟩ : Act) X := by
 have HK := Lib.hid hK
 have hn0 : Hid ((0 : Int) ≤ (n : Int)) := by unfold Hid; omega
 have hn1 : Hid ((n : Int) < (mz : Int)) := by unfold Hid; omega
 have hn2 : Hid ((0 : Int) < (mz : Int)) := by unfold Hid; omega
 have hd1 : Hid (decide ((mz : Int) ≤ (n : Int)) = false) := by unfold Hid; simp; omega
 have hd2 : Hid (decide (mz ≤ n) = false) := by unfold Hid; simp; omega
 clear hK hn
 unfold pall5Ops
 refine wpIn_region_any (by kernel_rfl) (anyIn8 (by kernel_rfl) (fun ⟨_, _, h⟩ => h) _ _ _ _ (AnyE.any (S := fun wx => Below X.heap.size X wx) (E := fun _ => true) _ _ _ _ ?_))
 have BD : Below X.heap.size X X.drew := (Below.refl _ _).drew
 have hHeld : Below X.heap.size X X.drew := BD
 have HB := Lib.hid BD
 obtain ⟨Z0, hZ0⟩ : ∃ z, z = X.drew := ⟨_, rfl⟩
 change AnyE _ _ _ _ _ _ _ _ _ X.drew
 rw [← hZ0] at HB hHeld ⊢
 clear hZ0 BD
 refine AnyE.take (i := 0) (.int .i64 (n : Int)) rfl (by kernel_rfl) (by kernel_rfl) (by kernel_rfl) (by kernel_rfl) (fun _ _ _ h => h) (.inl ⟨by kernel_rfl, fun wy hy => by (have q0 := (hy.cell (p := ⟨bk, 0, none⟩) (World.block_lt_of_cell? _ _ HK.out.1)).trans HK.out.1; go_simp; done)⟩) hHeld ?_
 try simp only [Act.put, List.setIfInBounds_toArray, List.set_cons_zero, List.set_cons_succ]
 refine AnyE.take (i := 1) (.slice (some ⟨bz, oz, none⟩) mz cap) rfl (by kernel_rfl) (by kernel_rfl) (by kernel_rfl) (by kernel_rfl) (fun _ _ _ h => h) (.inl ⟨by kernel_rfl, fun wy hy => by (have q1 := (hy.cell (p := ⟨bw, 0, none⟩) (World.block_lt_of_cell? _ _ HK.out.2.1)).trans HK.out.2.1; go_simp; done)⟩) hHeld ?_
 try simp only [Act.put, List.setIfInBounds_toArray, List.set_cons_zero, List.set_cons_succ]
 refine AnyE.take (i := 2) (.int .i64 (mz : Int)) rfl (by kernel_rfl) (by kernel_rfl) (by kernel_rfl) (by kernel_rfl) (fun _ _ _ h => h) (.inl ⟨by kernel_rfl, fun wy hy => by (go_simp; done)⟩) hHeld ?_
 try simp only [Act.put, List.setIfInBounds_toArray, List.set_cons_zero, List.set_cons_succ]
 refine AnyE.take (i := 3) (.bool false) rfl (by kernel_rfl) (by kernel_rfl) (by kernel_rfl) (by kernel_rfl) (fun _ _ _ h => h) (.inl ⟨by kernel_rfl, fun wy hy => by (have n0 := hn0.out; have n1 := hn1.out; have n2 := hn2.out; have d1 := hd1.out; have d2 := hd2.out; go_simp; done)⟩) hHeld ?_
 try simp only [Act.put, List.setIfInBounds_toArray, List.set_cons_zero, List.set_cons_succ]
 refine AnyE.take (i := 4) (.bool false) rfl (by kernel_rfl) (by kernel_rfl) (by kernel_rfl) (by kernel_rfl) (fun _ _ _ h => h) (.inl ⟨by kernel_rfl, fun wy hy => by (go_simp; done)⟩) hHeld ?_
 try simp only [Act.put, List.setIfInBounds_toArray, List.set_cons_zero, List.set_cons_succ]
 refine AnyE.take (i := 5) (.agg #[x.vr, .int .i64 x.fam, x.vq, .int .i64 x.ts, .int .i64 x.seq, .int .i64 x.kind, x.vv]) rfl (by kernel_rfl) (by kernel_rfl) (by kernel_rfl) (by kernel_rfl) (fun _ _ _ h => h) (.inl ⟨by kernel_rfl, fun wy hy => by (have c0 := (hy.cell (p := ⟨bx, 0, none⟩) (World.block_lt_of_cell? _ _ HK.out.2.2.1.1)).trans HK.out.2.2.1.1; have c1 := (hy.cell (p := ⟨bx, 1, none⟩) (World.block_lt_of_cell? _ _ HK.out.2.2.1.2.1)).trans HK.out.2.2.1.2.1; have c2 := (hy.cell (p := ⟨bx, 2, none⟩) (World.block_lt_of_cell? _ _ HK.out.2.2.1.2.2.1)).trans HK.out.2.2.1.2.2.1; have c3 := (hy.cell (p := ⟨bx, 3, none⟩) (World.block_lt_of_cell? _ _ HK.out.2.2.1.2.2.2.1)).trans HK.out.2.2.1.2.2.2.1; have c4 := (hy.cell (p := ⟨bx, 4, none⟩) (World.block_lt_of_cell? _ _ HK.out.2.2.1.2.2.2.2.1)).trans HK.out.2.2.1.2.2.2.2.1; have c5 := (hy.cell (p := ⟨bx, 5, none⟩) (World.block_lt_of_cell? _ _ HK.out.2.2.1.2.2.2.2.2.1)).trans HK.out.2.2.1.2.2.2.2.2.1; have c6 := (hy.cell (p := ⟨bx, 6, none⟩) (World.block_lt_of_cell? _ _ HK.out.2.2.1.2.2.2.2.2.2)).trans HK.out.2.2.1.2.2.2.2.2.2; go_simp; done)⟩) hHeld ?_
 try simp only [Act.put, List.setIfInBounds_toArray, List.set_cons_zero, List.set_cons_succ]
 refine AnyE.take (i := 6) (.slice (some ⟨bz, oz, none⟩) mz cap) rfl (by kernel_rfl) (by kernel_rfl) (by kernel_rfl) (by kernel_rfl) (fun _ _ _ h => h) (.inl ⟨by kernel_rfl, fun wy hy => by (have q1 := (hy.cell (p := ⟨bw, 0, none⟩) (World.block_lt_of_cell? _ _ HK.out.2.1)).trans HK.out.2.1; go_simp; done)⟩) hHeld ?_
 try simp only [Act.put, List.setIfInBounds_toArray, List.set_cons_zero, List.set_cons_succ]
 refine AnyE.take (i := 7) (.int .i64 (n : Int)) rfl (by kernel_rfl) (by kernel_rfl) (by kernel_rfl) (by kernel_rfl) (fun _ _ _ h => h) (.inl ⟨by kernel_rfl, fun wy hy => by (have q0 := (hy.cell (p := ⟨bk, 0, none⟩) (World.block_lt_of_cell? _ _ HK.out.1)).trans HK.out.1; go_simp; done)⟩) hHeld ?_
 try simp only [Act.put, List.setIfInBounds_toArray, List.set_cons_zero, List.set_cons_succ]
 refine AnyE.take (i := 8) (.pointer (some ⟨bz, oz + n * 7, none⟩)) rfl (by kernel_rfl) (by kernel_rfl) (by kernel_rfl) (by kernel_rfl) (fun _ _ _ h => h) (.inl ⟨by kernel_rfl, fun wy hy => by (have n0 := hn0.out; have n1 := hn1.out; have n2 := hn2.out; go_simp; done)⟩) hHeld ?_
 try simp only [Act.put, List.setIfInBounds_toArray, List.set_cons_zero, List.set_cons_succ]
 refine AnyE.take (i := 9) (.agg #[y.vr, .int .i64 y.fam, y.vq, .int .i64 y.ts, .int .i64 y.seq, .int .i64 y.kind, y.vv]) rfl (by kernel_rfl) (by kernel_rfl) (by kernel_rfl) (by kernel_rfl) (fun _ _ _ h => h) (.inl ⟨by kernel_rfl, fun wy hy => by (have c0 := (hy.cell (p := ⟨bz, oz + n * 7, none⟩) (World.block_lt_of_cell? _ _ HK.out.2.2.2.1)).trans HK.out.2.2.2.1; have c1 := (hy.cell (p := ⟨bz, oz + n * 7 + 1, none⟩) (World.block_lt_of_cell? _ _ HK.out.2.2.2.2.1)).trans HK.out.2.2.2.2.1; have c2 := (hy.cell (p := ⟨bz, oz + n * 7 + 2, none⟩) (World.block_lt_of_cell? _ _ HK.out.2.2.2.2.2.1)).trans HK.out.2.2.2.2.2.1; have c3 := (hy.cell (p := ⟨bz, oz + n * 7 + 3, none⟩) (World.block_lt_of_cell? _ _ HK.out.2.2.2.2.2.2.1)).trans HK.out.2.2.2.2.2.2.1; have c4 := (hy.cell (p := ⟨bz, oz + n * 7 + 4, none⟩) (World.block_lt_of_cell? _ _ HK.out.2.2.2.2.2.2.2.1)).trans HK.out.2.2.2.2.2.2.2.1; have c5 := (hy.cell (p := ⟨bz, oz + n * 7 + 5, none⟩) (World.block_lt_of_cell? _ _ HK.out.2.2.2.2.2.2.2.2.1)).trans HK.out.2.2.2.2.2.2.2.2.1; have c6 := (hy.cell (p := ⟨bz, oz + n * 7 + 6, none⟩) (World.block_lt_of_cell? _ _ HK.out.2.2.2.2.2.2.2.2.2)).trans HK.out.2.2.2.2.2.2.2.2.2; go_simp; done)⟩) hHeld ?_
 try simp only [Act.put, List.setIfInBounds_toArray, List.set_cons_zero, List.set_cons_succ]
 refine AnyE.one (i := 10) rfl (by kernel_rfl) (by kernel_rfl) (fun KK hK => ?_)
 go_simp
 go_at_call 11
 refine (hSe.out _ HB.out).mono ?_
 rintro e9 w1 ⟨rfl, b1⟩
 have HB := Lib.hid (HB.out.trans (b1.mono HB.out.size))
 clear b1
 go_wp2_with fail
 refine hK.out _ _ ⟨fun _ => HB.out, ?_⟩
 have hHeld := HB.out
 clear hK
 try simp only [Act.put, List.setIfInBounds_toArray, List.set_cons_zero, List.set_cons_succ]
 refine AnyE.take (i := 11) (.bool false) rfl (by kernel_rfl) (by kernel_rfl) (by kernel_rfl) (by kernel_rfl) (fun _ _ _ h => h) (.inl ⟨by kernel_rfl, fun wy hy => by (go_simp; done)⟩) hHeld ?_
 try simp only [Act.put, List.setIfInBounds_toArray, List.set_cons_zero, List.set_cons_succ]
 refine AnyE.take (i := 12) (.bool false) rfl (by kernel_rfl) (by kernel_rfl) (by kernel_rfl) (by kernel_rfl) (fun _ _ _ h => h) (.inl ⟨by kernel_rfl, fun wy hy => by (go_simp; done)⟩) hHeld ?_
 try simp only [Act.put, List.setIfInBounds_toArray, List.set_cons_zero, List.set_cons_succ]
 refine AnyE.done (by kernel_rfl) ?_ _
 exact ⟨rfl, HB.out⟩
def pgiv7Ops : Array Oper := #[{ dst := some 36, op := Op.load 3 (Operand.tmp 14), type := 3, pos := "law.go:178", after := #[], guard := none }, { dst := some 37, op := Op.load 27 (Operand.tmp 13), type := 27, pos := "law.go:178", after := #[], guard := none }, { dst := some 38, op := Op.call { callee := Callee.builtin Builtin.len, args := #[Operand.tmp 37], argTypes := #[27] }, type := 3, pos := "law.go:178", after := #[{ on := 1, ground := Ground.data }], guard := none }, { dst := some 39, op := Op.binOp BinOp.geq 3 (Operand.tmp 36) (Operand.tmp 38) 3, type := 4, pos := "law.go:178", after := #[{ on := 0, ground := Ground.data }, { on := 2, ground := Ground.data }], guard := none }, { dst := some 40, op := Op.move (Operand.tmp 39), type := 4, pos := "law.go:178", after := #[{ on := 3, ground := Ground.data }], guard := none }, { dst := some 41, op := Op.load 38 (Operand.tmp 15), type := 38, pos := "law.go:178", after := #[{ on := 4, ground := Ground.guard }], guard := some (4, false) }, { dst := some 42, op := Op.load 27 (Operand.tmp 13), type := 27, pos := "law.go:178", after := #[{ on := 4, ground := Ground.guard }], guard := some (4, false) }, { dst := some 43, op := Op.load 3 (Operand.tmp 14), type := 3, pos := "law.go:178", after := #[{ on := 4, ground := Ground.guard }], guard := some (4, false) }, { dst := some 44, op := Op.indexAddr 27 (Operand.tmp 42) (Operand.tmp 43), type := 0, pos := "law.go:178", after := #[{ on := 6, ground := Ground.data }, { on := 7, ground := Ground.data }, { on := 4, ground := Ground.guard }], guard := some (4, false) }, { dst := some 45, op := Op.load 38 (Operand.tmp 44), type := 38, pos := "law.go:178", after := #[{ on := 8, ground := Ground.data }, { on := 4, ground := Ground.guard }], guard := some (4, false) }, { dst := some 46, op := Op.call { callee := Callee.value (Operand.func 11), args := #[Operand.tmp 41, Operand.tmp 45], argTypes := #[38, 38] }, type := 4, pos := "law.go:178", after := #[{ on := 5, ground := Ground.data }, { on := 9, ground := Ground.data }, { on := 4, ground := Ground.chain }, { on := 4, ground := Ground.guard }], guard := some (4, false) }, { dst := some 47, op := Op.unOp UnOp.not 4 (Operand.tmp 46), type := 4, pos := "law.go:178", after := #[{ on := 10, ground := Ground.data }, { on := 4, ground := Ground.guard }], guard := some (4, false) }, { dst := some 48, op := Op.pick (Operand.tmp 40) (Operand.const (Value.bool true)) (Operand.tmp 47), type := 4, pos := "law.go:178", after := #[{ on := 4, ground := Ground.data }, { on := 11, ground := Ground.data }], guard := none }]
set_option maxRecDepth 100000 in
set_option maxHeartbeats 16000000 in
theorem pgiv7_region {l' : Nat} {X : World} {bk bw bx bz oz cap mz n : Nat} {x y : EntD} {s0 s1 s2 s3 s4 s5 s6 s7 s8 s9 s10 s11 s12 s16 s17 s18 s19 s20 s21 s22 s23 s24 s25 s26 s27 s28 s29 s30 s31 s32 s33 s34 s35 s36 s37 s38 s39 s40 s41 s42 s43 s44 s45 s46 s47 s48 s49 s50 s51 s52 s53 s54 s55 s56 s57 s58 s59 s60 s61 s62 s63 s64 s65 s66 s67 s68 s69 s70 s71 s72 s73 s74 s75 s76 : Value} (hn : n < mz)
  (hK : X.cell? ⟨bk, 0, none⟩ = some (.int .i64 (n : Int)) ∧ X.cell? ⟨bw, 0, none⟩ = some (.slice (some ⟨bz, oz, none⟩) mz cap) ∧ (X.cell? ⟨bx, 0, none⟩ = some (x.vr) ∧ X.cell? ⟨bx, 1, none⟩ = some (.int .i64 x.fam) ∧ X.cell? ⟨bx, 2, none⟩ = some (x.vq) ∧ X.cell? ⟨bx, 3, none⟩ = some (.int .i64 x.ts) ∧ X.cell? ⟨bx, 4, none⟩ = some (.int .i64 x.seq) ∧ X.cell? ⟨bx, 5, none⟩ = some (.int .i64 x.kind) ∧ X.cell? ⟨bx, 6, none⟩ = some (x.vv)) ∧ (X.cell? ⟨bz, oz + n * 7, none⟩ = some (y.vr) ∧ X.cell? ⟨bz, oz + n * 7 + 1, none⟩ = some (.int .i64 y.fam) ∧ X.cell? ⟨bz, oz + n * 7 + 2, none⟩ = some (y.vq) ∧ X.cell? ⟨bz, oz + n * 7 + 3, none⟩ = some (.int .i64 y.ts) ∧ X.cell? ⟨bz, oz + n * 7 + 4, none⟩ = some (.int .i64 y.seq) ∧ X.cell? ⟨bz, oz + n * 7 + 5, none⟩ = some (.int .i64 y.kind) ∧ X.cell? ⟨bz, oz + n * 7 + 6, none⟩ = some (y.vv)))
  (hSe : Hid (∀ Z, Below X.heap.size X Z → Calls Tryz.prog 11 #[.agg #[x.vr, .int .i64 x.fam, x.vq, .int .i64 x.ts, .int .i64 x.seq, .int .i64 x.kind, x.vv], .agg #[y.vr, .int .i64 y.fam, y.vq, .int .i64 y.ts, .int .i64 y.seq, .int .i64 y.kind, y.vv]] Z fun r w' => r = .returned (.bool true) ∧ Below Z.heap.size Z w')) :
  (Code.region 7 pgiv7Ops true).wpIn (Fence.wide.inRound l') 9 Tryz.prog (fun e a' w' => match e with | .normal => a' = (⟨#[s0, s1, s2, s3, s4, s5, s6, s7, s8, s9, s10, s11, s12, .pointer (some ⟨bw, 0, none⟩), .pointer (some ⟨bk, 0, none⟩), .pointer (some ⟨bx, 0, none⟩), s16, s17, s18, s19, s20, s21, s22, s23, s24, s25, s26, s27, s28, s29, s30, s31, s32, s33, s34, s35, .int .i64 (n : Int), .slice (some ⟨bz, oz, none⟩) mz cap, .int .i64 (mz : Int), .bool false, .bool false, .agg #[x.vr, .int .i64 x.fam, x.vq, .int .i64 x.ts, .int .i64 x.seq, .int .i64 x.kind, x.vv], .slice (some ⟨bz, oz, none⟩) mz cap, .int .i64 (n : Int), .pointer (some ⟨bz, oz + n * 7, none⟩), .agg #[y.vr, .int .i64 y.fam, y.vq, .int .i64 y.ts, .int .i64 y.seq, .int .i64 y.kind, y.vv], .bool true, .bool false, .bool false, s49, s50, s51, s52, s53, s54, s55, s56, s57, s58, s59, s60, s61, s62, s63, s64, s65, s66, s67, s68, s69, s70, s71, s72, s73, s74, s75, s76], []⟩ : Act) ∧ Below X.heap.size X w' | _ => False) (⟨#[s0, s1, s2, s3, s4, s5, s6, s7, s8, s9, s10, s11, s12, .pointer (some ⟨bw, 0, none⟩), .pointer (some ⟨bk, 0, none⟩), .pointer (some ⟨bx, 0, none⟩), s16, s17, s18, s19, s20, s21, s22, s23, s24, s25, s26, s27, s28, s29, s30, s31, s32, s33, s34, s35, s36, s37, s38, s39, s40, s41, s42, s43, s44, s45, s46, s47, s48, s49, s50, s51, s52, s53, s54, s55, s56, s57, s58, s59, s60, s61, s62, s63, s64, s65, s66, s67, s68, s69, s70, s71, s72, s73, s74, s75, s76], []⟩ : Act) X := by
 have HK := Lib.hid hK
 have hn0 : Hid ((0 : Int) ≤ (n : Int)) := by unfold Hid; omega
 have hn1 : Hid ((n : Int) < (mz : Int)) := by unfold Hid; omega
 have hn2 : Hid ((0 : Int) < (mz : Int)) := by unfold Hid; omega
 have hd1 : Hid (decide ((mz : Int) ≤ (n : Int)) = false) := by unfold Hid; simp; omega
 have hd2 : Hid (decide (mz ≤ n) = false) := by unfold Hid; simp; omega
 clear hK hn
 unfold pgiv7Ops
 refine wpIn_region_any (by kernel_rfl) (anyIn8 (by kernel_rfl) (fun ⟨_, _, h⟩ => h) _ _ _ _ (AnyE.any (S := fun wx => Below X.heap.size X wx) (E := fun _ => true) _ _ _ _ ?_))
 have BD : Below X.heap.size X X.drew := (Below.refl _ _).drew
 have hHeld : Below X.heap.size X X.drew := BD
 have HB := Lib.hid BD
 obtain ⟨Z0, hZ0⟩ : ∃ z, z = X.drew := ⟨_, rfl⟩
 change AnyE _ _ _ _ _ _ _ _ _ X.drew
 rw [← hZ0] at HB hHeld ⊢
 clear hZ0 BD
 refine AnyE.take (i := 0) (.int .i64 (n : Int)) rfl (by kernel_rfl) (by kernel_rfl) (by kernel_rfl) (by kernel_rfl) (fun _ _ _ h => h) (.inl ⟨by kernel_rfl, fun wy hy => by (have q0 := (hy.cell (p := ⟨bk, 0, none⟩) (World.block_lt_of_cell? _ _ HK.out.1)).trans HK.out.1; go_simp; done)⟩) hHeld ?_
 try simp only [Act.put, List.setIfInBounds_toArray, List.set_cons_zero, List.set_cons_succ]
 refine AnyE.take (i := 1) (.slice (some ⟨bz, oz, none⟩) mz cap) rfl (by kernel_rfl) (by kernel_rfl) (by kernel_rfl) (by kernel_rfl) (fun _ _ _ h => h) (.inl ⟨by kernel_rfl, fun wy hy => by (have q1 := (hy.cell (p := ⟨bw, 0, none⟩) (World.block_lt_of_cell? _ _ HK.out.2.1)).trans HK.out.2.1; go_simp; done)⟩) hHeld ?_
 try simp only [Act.put, List.setIfInBounds_toArray, List.set_cons_zero, List.set_cons_succ]
 refine AnyE.take (i := 2) (.int .i64 (mz : Int)) rfl (by kernel_rfl) (by kernel_rfl) (by kernel_rfl) (by kernel_rfl) (fun _ _ _ h => h) (.inl ⟨by kernel_rfl, fun wy hy => by (go_simp; done)⟩) hHeld ?_
 try simp only [Act.put, List.setIfInBounds_toArray, List.set_cons_zero, List.set_cons_succ]
 refine AnyE.take (i := 3) (.bool false) rfl (by kernel_rfl) (by kernel_rfl) (by kernel_rfl) (by kernel_rfl) (fun _ _ _ h => h) (.inl ⟨by kernel_rfl, fun wy hy => by (have n0 := hn0.out; have n1 := hn1.out; have n2 := hn2.out; have d1 := hd1.out; have d2 := hd2.out; go_simp; done)⟩) hHeld ?_
 try simp only [Act.put, List.setIfInBounds_toArray, List.set_cons_zero, List.set_cons_succ]
 refine AnyE.take (i := 4) (.bool false) rfl (by kernel_rfl) (by kernel_rfl) (by kernel_rfl) (by kernel_rfl) (fun _ _ _ h => h) (.inl ⟨by kernel_rfl, fun wy hy => by (go_simp; done)⟩) hHeld ?_
 try simp only [Act.put, List.setIfInBounds_toArray, List.set_cons_zero, List.set_cons_succ]
 refine AnyE.take (i := 5) (.agg #[x.vr, .int .i64 x.fam, x.vq, .int .i64 x.ts, .int .i64 x.seq, .int .i64 x.kind, x.vv]) rfl (by kernel_rfl) (by kernel_rfl) (by kernel_rfl) (by kernel_rfl) (fun _ _ _ h => h) (.inl ⟨by kernel_rfl, fun wy hy => by (have c0 := (hy.cell (p := ⟨bx, 0, none⟩) (World.block_lt_of_cell? _ _ HK.out.2.2.1.1)).trans HK.out.2.2.1.1; have c1 := (hy.cell (p := ⟨bx, 1, none⟩) (World.block_lt_of_cell? _ _ HK.out.2.2.1.2.1)).trans HK.out.2.2.1.2.1; have c2 := (hy.cell (p := ⟨bx, 2, none⟩) (World.block_lt_of_cell? _ _ HK.out.2.2.1.2.2.1)).trans HK.out.2.2.1.2.2.1; have c3 := (hy.cell (p := ⟨bx, 3, none⟩) (World.block_lt_of_cell? _ _ HK.out.2.2.1.2.2.2.1)).trans HK.out.2.2.1.2.2.2.1; have c4 := (hy.cell (p := ⟨bx, 4, none⟩) (World.block_lt_of_cell? _ _ HK.out.2.2.1.2.2.2.2.1)).trans HK.out.2.2.1.2.2.2.2.1; have c5 := (hy.cell (p := ⟨bx, 5, none⟩) (World.block_lt_of_cell? _ _ HK.out.2.2.1.2.2.2.2.2.1)).trans HK.out.2.2.1.2.2.2.2.2.1; have c6 := (hy.cell (p := ⟨bx, 6, none⟩) (World.block_lt_of_cell? _ _ HK.out.2.2.1.2.2.2.2.2.2)).trans HK.out.2.2.1.2.2.2.2.2.2; go_simp; done)⟩) hHeld ?_
 try simp only [Act.put, List.setIfInBounds_toArray, List.set_cons_zero, List.set_cons_succ]
 refine AnyE.take (i := 6) (.slice (some ⟨bz, oz, none⟩) mz cap) rfl (by kernel_rfl) (by kernel_rfl) (by kernel_rfl) (by kernel_rfl) (fun _ _ _ h => h) (.inl ⟨by kernel_rfl, fun wy hy => by (have q1 := (hy.cell (p := ⟨bw, 0, none⟩) (World.block_lt_of_cell? _ _ HK.out.2.1)).trans HK.out.2.1; go_simp; done)⟩) hHeld ?_
 try simp only [Act.put, List.setIfInBounds_toArray, List.set_cons_zero, List.set_cons_succ]
 refine AnyE.take (i := 7) (.int .i64 (n : Int)) rfl (by kernel_rfl) (by kernel_rfl) (by kernel_rfl) (by kernel_rfl) (fun _ _ _ h => h) (.inl ⟨by kernel_rfl, fun wy hy => by (have q0 := (hy.cell (p := ⟨bk, 0, none⟩) (World.block_lt_of_cell? _ _ HK.out.1)).trans HK.out.1; go_simp; done)⟩) hHeld ?_
 try simp only [Act.put, List.setIfInBounds_toArray, List.set_cons_zero, List.set_cons_succ]
 refine AnyE.take (i := 8) (.pointer (some ⟨bz, oz + n * 7, none⟩)) rfl (by kernel_rfl) (by kernel_rfl) (by kernel_rfl) (by kernel_rfl) (fun _ _ _ h => h) (.inl ⟨by kernel_rfl, fun wy hy => by (have n0 := hn0.out; have n1 := hn1.out; have n2 := hn2.out; go_simp; done)⟩) hHeld ?_
 try simp only [Act.put, List.setIfInBounds_toArray, List.set_cons_zero, List.set_cons_succ]
 refine AnyE.take (i := 9) (.agg #[y.vr, .int .i64 y.fam, y.vq, .int .i64 y.ts, .int .i64 y.seq, .int .i64 y.kind, y.vv]) rfl (by kernel_rfl) (by kernel_rfl) (by kernel_rfl) (by kernel_rfl) (fun _ _ _ h => h) (.inl ⟨by kernel_rfl, fun wy hy => by (have c0 := (hy.cell (p := ⟨bz, oz + n * 7, none⟩) (World.block_lt_of_cell? _ _ HK.out.2.2.2.1)).trans HK.out.2.2.2.1; have c1 := (hy.cell (p := ⟨bz, oz + n * 7 + 1, none⟩) (World.block_lt_of_cell? _ _ HK.out.2.2.2.2.1)).trans HK.out.2.2.2.2.1; have c2 := (hy.cell (p := ⟨bz, oz + n * 7 + 2, none⟩) (World.block_lt_of_cell? _ _ HK.out.2.2.2.2.2.1)).trans HK.out.2.2.2.2.2.1; have c3 := (hy.cell (p := ⟨bz, oz + n * 7 + 3, none⟩) (World.block_lt_of_cell? _ _ HK.out.2.2.2.2.2.2.1)).trans HK.out.2.2.2.2.2.2.1; have c4 := (hy.cell (p := ⟨bz, oz + n * 7 + 4, none⟩) (World.block_lt_of_cell? _ _ HK.out.2.2.2.2.2.2.2.1)).trans HK.out.2.2.2.2.2.2.2.1; have c5 := (hy.cell (p := ⟨bz, oz + n * 7 + 5, none⟩) (World.block_lt_of_cell? _ _ HK.out.2.2.2.2.2.2.2.2.1)).trans HK.out.2.2.2.2.2.2.2.2.1; have c6 := (hy.cell (p := ⟨bz, oz + n * 7 + 6, none⟩) (World.block_lt_of_cell? _ _ HK.out.2.2.2.2.2.2.2.2.2)).trans HK.out.2.2.2.2.2.2.2.2.2; go_simp; done)⟩) hHeld ?_
 try simp only [Act.put, List.setIfInBounds_toArray, List.set_cons_zero, List.set_cons_succ]
 refine AnyE.one (i := 10) rfl (by kernel_rfl) (by kernel_rfl) (fun KK hK => ?_)
 go_simp
 go_at_call 11
 refine (hSe.out _ HB.out).mono ?_
 rintro e9 w1 ⟨rfl, b1⟩
 have HB := Lib.hid (HB.out.trans (b1.mono HB.out.size))
 clear b1
 go_wp2_with fail
 refine hK.out _ _ ⟨fun _ => HB.out, ?_⟩
 have hHeld := HB.out
 clear hK
 try simp only [Act.put, List.setIfInBounds_toArray, List.set_cons_zero, List.set_cons_succ]
 refine AnyE.take (i := 11) (.bool false) rfl (by kernel_rfl) (by kernel_rfl) (by kernel_rfl) (by kernel_rfl) (fun _ _ _ h => h) (.inl ⟨by kernel_rfl, fun wy hy => by (go_simp; done)⟩) hHeld ?_
 try simp only [Act.put, List.setIfInBounds_toArray, List.set_cons_zero, List.set_cons_succ]
 refine AnyE.take (i := 12) (.bool false) rfl (by kernel_rfl) (by kernel_rfl) (by kernel_rfl) (by kernel_rfl) (fun _ _ _ h => h) (.inl ⟨by kernel_rfl, fun wy hy => by (go_simp; done)⟩) hHeld ?_
 try simp only [Act.put, List.setIfInBounds_toArray, List.set_cons_zero, List.set_cons_succ]
 refine AnyE.done (by kernel_rfl) ?_ _
 exact ⟨rfl, HB.out⟩
end Go.Proofs.YtpabbnddeklpdaaGreat
