import Derived.Test.YtlkhphhmhffdjaaK17
set_option linter.unusedSimpArgs false
set_option linter.unusedVariables false
namespace Go.Proofs.Ytlkhphhmhffdjaa
open Go.RowKit Go.MapKept Go.Sort
variable {w w' W X : World} {wB n m : Nat} {vD vR vL vM : Value} {z : Int} {ds rs : List Nat}
def pv (b : Nat) : Value := .pointer (some ⟨b, 0, none⟩)
theorem und_pd4 : Try.prog.underlying 31 = some (.slice 39) := by kernel_rfl
theorem info_pd4 : (Try.prog.info? 39).map (fun i => (i.zero, i.size, i.bytes)) = some (some (.pointer none), 1, 8) := by kernel_rfl
theorem und_pr4 : Try.prog.underlying 32 = some (.slice 41) := by kernel_rfl
theorem info_pr4 : (Try.prog.info? 41).map (fun i => (i.zero, i.size, i.bytes)) = some (some (.pointer none), 1, 8) := by kernel_rfl
theorem row_ty {B sz n g : Nat} {e t : TypeId} {v : Value} {vs : List Value} {cs : Array Value} {fz : Nat × Nat} (h : w.ownsRow B e sz v n vs) (k : w.heap[g]? = some (.cells cs t fz)) (hne : e ≠ t) : v.ownBlock ≠ some g := by
 intro hv
 rcases h.2 with ⟨h1, _⟩ | ⟨g2, cap, cur, h3, _, h5, _⟩
 ·rw [h1] at hv; cases hv
 ·rw [h3] at hv
  simp only [Value.ownBlock, Option.some.injEq] at hv
  rw [hv, k] at h5
  simp only [Option.some.injEq, Obj.cells.injEq] at h5
  exact hne h5.2.1.symm
theorem row_far {B sz n : Nat} {e : TypeId} {v : Value} {vs : List Value} {o : Option Nat} (h : w.ownsRow B e sz v n vs) (k : w.grownBy w' o) (hne : ∀ g, o = some g → v.ownBlock ≠ some g) : w'.ownsRow B e sz v n vs := by
 refine ⟨h.1, ?_⟩
 rcases h.2 with h2 | ⟨g, cap, cur, h3, h4, h5, h6⟩
 ·exact .inl h2
 ·exact .inr ⟨g, cap, cur, h3, h4, by rw [k.block g (Array.getElem?_eq_some_iff.1 h5).1 (fun q => hne g q.symm (by rw [h3]; rfl))]; exact h5, h6⟩
structure WD (w : World) (wB : Nat) (vD vR vL vM : Value) (z : Int) (n m : Nat) (ds rs : List Nat) : Prop where
 box : WBox w wB vD vR vL vM z
 rd : w.ownsRow 0 39 1 vD n (ds.map pv)
 rr : w.ownsRow 0 41 1 vR m (rs.map pv)
theorem WD.nb (h : WD w wB vD vR vL vM z n m ds rs) : vD.ownBlock ≠ some wB ∧ vR.ownBlock ≠ some wB := ⟨row_ty h.rd h.box (by decide), row_ty h.rr h.box (by decide)⟩
theorem WD.dr (h : WD w wB vD vR vL vM z n m ds rs) : ∀ g, vD.ownBlock = some g → vR.ownBlock ≠ some g := by
 intro g hg
 rcases h.rd.2 with ⟨h1, _⟩ | ⟨g2, cap, cur, h3, _, h5, _⟩
 ·rw [h1] at hg; cases hg
 ·rw [h3] at hg
  simp only [Value.ownBlock, Option.some.injEq] at hg
  subst hg
  exact row_ty h.rr h5 (by decide)
theorem WD.stepD {v' : Value} {n' : Nat} {ds' : List Nat} (h : WD w wB vD vR vL vM z n m ds rs) (gr : w.grownBy w' vD.ownBlock) (row : w'.ownsRow 0 39 1 v' n' (ds'.map pv)) : WBox w' wB vD vR vL vM z ∧ WD (w'.setCell ⟨wB, 0, none⟩ v') wB v' vR vL vM z n' m ds' rs := by
 have b := h.box.grown gr h.nb.1
 have g := set_grown w' wB 0 v'
 have rr2 := row_far h.rr gr (fun i e => h.dr i e)
 exact ⟨b, b.setD v', row_far row g (fun i e e2 => row_ty row b (by decide) (by cases e; exact e2)), row_far rr2 g (fun i e e2 => row_ty rr2 b (by decide) (by cases e; exact e2))⟩
theorem WD.stepR {v' : Value} {n' : Nat} {rs' : List Nat} (h : WD w wB vD vR vL vM z n m ds rs) (gr : w.grownBy w' vR.ownBlock) (row : w'.ownsRow 0 41 1 v' n' (rs'.map pv)) : WBox w' wB vD vR vL vM z ∧ WD (w'.setCell ⟨wB, 1, none⟩ v') wB vD v' vL vM z n n' ds rs' := by
 have b := h.box.grown gr h.nb.2
 have g := set_grown w' wB 1 v'
 have rd2 := row_far h.rd gr (fun i e e2 => h.dr i e2 e)
 exact ⟨b, b.setR v', row_far rd2 g (fun i e e2 => row_ty rd2 b (by decide) (by cases e; exact e2)), row_far row g (fun i e e2 => row_ty row b (by decide) (by cases e; exact e2))⟩
set_option maxRecDepth 100000 in
set_option maxHeartbeats 4000000 in
theorem joins_ok {aD aR : Option Addr} {cD cR dB rB : Nat} (h : WD w wB (.slice aD n cD) (.slice aR m cR) vL vM z n m ds rs) (hn : n ≤ 1000) (hm : m ≤ 1000) : Calls Try.prog 27 #[.pointer (some ⟨wB, 0, none⟩), .pointer (some ⟨dB, 0, none⟩), .int .i64 0, .pointer (some ⟨rB, 0, none⟩), .int .i64 0] w fun e w' => e = .returned (.bool true) ∧ ∃ aD' cD' aR' cR', WD w' wB (.slice aD' (n + 1) cD') (.slice aR' (m + 1) cR') vL vM z (n + 1) (m + 1) (ds ++ [dB]) (rs ++ [rB]) ∧ Go4 w w' (fun i => i = wB ∨ (Value.slice aD n cD).ownBlock = some i ∨ (Value.slice aR m cR).ownBlock = some i) (fun i => i = wB ∨ (Value.slice aD' (n + 1) cD').ownBlock = some i ∨ (Value.slice aR' (m + 1) cR').ownBlock = some i) := by
 have H := Lib.hid h
 have q0 := h.box.cells.1
 have HN := fun (W : World) => num4_any 0 W
 have b1 := (Below.refl w.heap.size w).alloc (Nat.le_refl _) (.cells #[pv dB] 39)
 clear h
 go_enter Try.func27, Try.ntmps27
 go_wp2_with fail
 refine (HN w).mono ?_
 rintro e w2 ⟨rfl, hw2⟩
 rw [hw2]
 clear hw2 w2
 go_wp2_with (at_builtin; refine dpl_append1 rfl _ _ 39 31 8 (.pointer none) und_pd4 info_pd4 rfl (by decide) rfl 0 aD n cD (ds.map pv) rfl (H.out.rd.alloc _) w.heap.size (pv dB) rfl ?_ rfl (by omega) (Nat.zero_le _) ?_)
 ·simp [go_sem, pv]
 intro a3 k3 X3 own3 gr3 loc3
 have gr3b : w.grownBy X3 (Value.slice aD n cD).ownBlock := grown_trans (grown_alloc w _ _) gr3 (.inl rfl)
 have nr3 : (Value.slice a3 (n + 1) k3).ownBlock = (Value.slice aD n cD).ownBlock ∨ ∀ g, (Value.slice a3 (n + 1) k3).ownBlock = some g → w.heap.size ≤ g := loc3.elim .inl (fun e => .inr (fun g hg => by rw [e] at hg; cases hg; omega))
 have own3b : X3.ownsRow 0 39 1 (Value.slice a3 (n + 1) k3) (n + 1) ((ds ++ [dB]).map pv) := by rw [List.map_append]; exact own3
 have s3 := H.out.stepD gr3b own3b
 have f0 := s3.1.fz 0
 have p0 := s3.1.cells.1
 have s3b := s3.2
 have g3 := set_grown X3 wB 0 (.slice a3 (n + 1) k3)
 have G3 := Lib.hid (And.intro gr3b nr3)
 clear gr3b nr3 own3b s3 own3 gr3 loc3 q0 b1
 go_upto_region 5 with fail
 have hZ : ∃ Z, Z = X3.setCell ⟨wB, 0, none⟩ (.slice a3 (n + 1) k3) := ⟨_, rfl⟩
 obtain ⟨Z, hZ⟩ := hZ
 rw [← hZ] at s3b g3 ⊢
 clear hZ f0 p0
 have S3 := Lib.hid s3b
 have GS3 := Lib.hid g3
 have q1 := s3b.box.cells.2.1
 clear s3b g3
 go_wp2_with (at_builtin; refine dpl_append1 rfl _ _ 41 32 8 (.pointer none) und_pr4 info_pr4 rfl (by decide) rfl 0 aR m cR (rs.map pv) rfl (S3.out.rr.alloc _) Z.heap.size (pv rB) rfl ?_ rfl (by omega) (Nat.zero_le _) ?_)
 ·simp [go_sem, pv]
 intro a5 k5 X5 own5 gr5 loc5
 have gr5b : Z.grownBy X5 (Value.slice aR m cR).ownBlock := grown_trans (grown_alloc Z _ _) gr5 (.inl rfl)
 have nr5 : (Value.slice a5 (m + 1) k5).ownBlock = (Value.slice aR m cR).ownBlock ∨ ∀ g, (Value.slice a5 (m + 1) k5).ownBlock = some g → Z.heap.size ≤ g := loc5.elim .inl (fun e => .inr (fun g hg => by rw [e] at hg; cases hg; omega))
 have own5b : X5.ownsRow 0 41 1 (Value.slice a5 (m + 1) k5) (m + 1) ((rs ++ [rB]).map pv) := by rw [List.map_append]; exact own5
 have s5 := S3.out.stepR gr5b own5b
 have f1 := s5.1.fz 1
 have p1 := s5.1.cells.2.1
 have S5 := Lib.hid s5.2
 have G5 := Lib.hid (And.intro gr5b (And.intro nr5 (set_grown X5 wB 1 (.slice a5 (m + 1) k5))))
 clear gr5b nr5 own5b s5 own5 gr5 loc5 q1
 go_wp2
 go_ret
 refine ⟨rfl, a3, k3, a5, k5, S5.out, ?_⟩
 have t1 := Go4.of_near (Q := fun i => i = wB ∨ (Value.slice aD n cD).ownBlock = some i ∨ (Value.slice aR m cR).ownBlock = some i) G3.out.1 (fun i e => .inr (.inl e)) G3.out.2
 have t2 := Go4.of_grown (Q := fun i => (i = wB ∨ (Value.slice aD n cD).ownBlock = some i ∨ (Value.slice aR m cR).ownBlock = some i) ∨ (Value.slice a3 (n + 1) k3).ownBlock = some i) GS3.out (fun i e => .inl (.inl (by cases e; rfl)))
 have t3 := Go4.of_near (Q := fun i => (i = wB ∨ (Value.slice aD n cD).ownBlock = some i ∨ (Value.slice aR m cR).ownBlock = some i) ∨ (Value.slice a3 (n + 1) k3).ownBlock = some i) G5.out.1 (fun i e => .inl (.inr (.inr e))) G5.out.2.1
 have t4 := Go4.of_grown (Q := fun i => ((i = wB ∨ (Value.slice aD n cD).ownBlock = some i ∨ (Value.slice aR m cR).ownBlock = some i) ∨ (Value.slice a3 (n + 1) k3).ownBlock = some i) ∨ (Value.slice a5 (m + 1) k5).ownBlock = some i) G5.out.2.2 (fun i e => .inl (.inl (.inl (by cases e; rfl))))
 exact (((t1.trans t2).trans t3).trans t4).less (fun i hi => by
  rcases hi with h | h | h
  ·exact .inl (.inl (.inl h))
  ·exact .inl (.inr h)
  ·exact .inr h)
end Go.Proofs.Ytlkhphhmhffdjaa

namespace Go.Proofs.Ytlkhphhmhffdjaa
open Go.RowKit Go.MapKept Go.Sort
variable {w w1 w2 w' : World} {A A1 B B2 O O' : Nat → Prop} {dB rB : Nat} {d d1 r r2 : Dk4}
structure T4 (w : World) (A B : Nat → Prop) (dB rB : Nat) (d r : Dk4) : Prop where
 dsk : Dsk w A dB d
 rd : RD w B rB r
 lk : Lk d r
 ap : ∀ i, A i → ¬ B i
theorem Dsk.lt4 (h : Dsk w A dB d) : ∀ i, A i → i < w.heap.size := by
 obtain ⟨_, mb, fl, h, _⟩ := h
 exact h.lt
end Go.Proofs.Ytlkhphhmhffdjaa

namespace Go.Proofs.Ytlkhphhmhffdjaa
open Go.RowKit Go.MapKept Go.Sort
variable {w w' : World} {wB : Nat}
set_option maxRecDepth 100000 in
set_option maxHeartbeats 4000000 in
theorem joins_nil {x : Int} (hx : x ≠ 0) (w : World) : Calls Try.prog 27 #[.pointer (some ⟨wB, 0, none⟩), .pointer none, .int .i64 x, .pointer none, .int .i64 x] w fun e w' => e = .returned (.bool true) ∧ w' = w := by
 have hb : (x != 0) = true := by simp [hx]
 have he : (x == 0) = false := by simp [hx]
 have HN := fun (W : World) => num4_any x W
 go_enter Try.func27, Try.ntmps27
 go_wp2_with fail
 refine (HN w).mono ?_
 rintro e w2 ⟨rfl, hw2⟩
 rw [hw2]
 clear hw2 w2
 go_wp2
 go_ret
 exact ⟨rfl, rfl⟩
end Go.Proofs.Ytlkhphhmhffdjaa

namespace Go.Proofs.Ytlkhphhmhffdjaa
open Go.RowKit Go.MapKept Go.Sort
variable {w w' W X : World} {O O' U U' P : Nat → Prop} {wB : Nat} {z : Int}
structure Pr4 where
 A : Nat → Prop
 B : Nat → Prop
 dB : Nat
 rB : Nat
 d : Dk4
 r : Dk4
def Pr4.In (p : Pr4) (i : Nat) : Prop := p.A i ∨ p.B i
structure T5 (w : World) (A B : Nat → Prop) (dB rB : Nat) (d r : Dk4) : Prop where
 dsk : Dsk w A dB d
 rd : RD w B rB r
 ap : ∀ i, A i → ¬ B i
section
variable {A A1 B B2 : Nat → Prop} {dB rB : Nat} {d d1 r r2 : Dk4} {w1 w2 : World}
theorem T5.kept (h : T5 w A B dB rB d r) (k : ∀ i, A i ∨ B i → w'.heap[i]? = w.heap[i]?) (hs : w.heap.size ≤ w'.heap.size) : T5 w' A B dB rB d r := ⟨h.dsk.kept (fun i hi => k i (.inl hi)) hs, h.rd.kept (fun i hi => k i (.inr hi)) hs, h.ap⟩
theorem T5.lt (h : T5 w A B dB rB d r) : ∀ i, A i ∨ B i → i < w.heap.size := fun i hi => hi.elim (h.dsk.lt4 i) (h.rd.lt i)
theorem T5.stepD (h : T5 w A B dB rB d r) (k : Dsk w1 A1 dB d1) (g : Go4 w w1 A A1) : T5 w1 A1 B dB rB d1 r ∧ Go4 w w1 (fun i => A i ∨ B i) (fun i => A1 i ∨ B i) :=
 ⟨⟨k, h.rd.kept (fun i hi => g.block i (h.rd.lt i hi) (fun q => h.ap i q hi)) g.size, fun i hi hb => (g.new i hi).elim (fun q => h.ap i q hb) (fun q => by have := h.rd.lt i hb; omega)⟩, g.wide (fun i hi => .inl hi) (fun i hi => hi.elim .inl (fun q => .inr (.inr q)))⟩
theorem T5.stepR (h : T5 w A B dB rB d r) (k : RD w2 B2 rB r2) (g : Go4 w w2 B B2) : T5 w2 A B2 dB rB d r2 ∧ Go4 w w2 (fun i => A i ∨ B i) (fun i => A i ∨ B2 i) :=
 ⟨⟨h.dsk.kept (fun i hi => g.block i (h.dsk.lt4 i hi) (fun q => h.ap i hi q)) g.size, k, fun i hi hb => (g.new i hb).elim (fun q => h.ap i hi q) (fun q => by have := h.dsk.lt4 i hi; omega)⟩, g.wide (fun i hi => .inr hi) (fun i hi => hi.elim (fun q => .inr (.inl q)) .inl)⟩
end
def Pr4.T (p : Pr4) (w : World) : Prop := T5 w p.A p.B p.dB p.rB p.d p.r
def Lks (qs : List Pr4) : Prop := ∀ p ∈ qs, Lk p.d p.r
theorem row_keep {B sz n : Nat} {e : TypeId} {v : Value} {vs : List Value} (h : w.ownsRow B e sz v n vs) (k : ∀ g, v.ownBlock = some g → w'.heap[g]? = w.heap[g]?) : w'.ownsRow B e sz v n vs := by
 refine ⟨h.1, ?_⟩
 rcases h.2 with h2 | ⟨g, cap, cur, h3, h4, h5, h6⟩
 ·exact .inl h2
 ·exact .inr ⟨g, cap, cur, h3, h4, by rw [k g (by rw [h3]; rfl)]; exact h5, h6⟩
theorem row_lt {B sz n g : Nat} {e : TypeId} {v : Value} {vs : List Value} (h : w.ownsRow B e sz v n vs) (hg : v.ownBlock = some g) : g < w.heap.size := by
 rcases h.2 with ⟨h1, _⟩ | ⟨g2, cap, cur, h3, _, h5, _⟩
 ·rw [h1] at hg; cases hg
 ·rw [h3] at hg
  simp only [Value.ownBlock, Option.some.injEq] at hg
  subst hg
  exact (Array.getElem?_eq_some_iff.1 h5).1
theorem Rd.keep4 {v : Value} {bs : List Nat} (h : Rd w v bs) (k : ∀ g, v.ownBlock = some g → w'.heap[g]? = w.heap[g]?) : Rd w' v bs := h.go4 (fun b off n c e _ => k b (by rw [e]; rfl))
theorem Bk4.keep {aL aM : Option Addr} {cL cM n : Nat} {its : List (Value × Nat × Nat)} (h : Bk4 w P aL cL aM cM n its) (k : ∀ i, P i → w'.heap[i]? = w.heap[i]?) (hs : w.heap.size ≤ w'.heap.size) : Bk4 w' P aL cL aM cM n its :=
 ⟨h.len, ⟨h.rl.1, h.rl.2.1, row_keep h.rl.2.2 (fun g e => k g (h.rlP g e))⟩, ⟨h.rm.1, row_keep h.rm.2 (fun g e => k g (h.rmP g e))⟩, h.rlP, h.rmP, fun x hx => ⟨(h.itm x hx).1, (h.itm x hx).2.keep4 (fun g e => k g (h.itP x hx g e))⟩, h.itP, h.dis, h.few, fun i hi => Nat.lt_of_lt_of_le (h.lt i hi) hs⟩
theorem WD.keep {vD vR vL vM : Value} {n m : Nat} {ds rs : List Nat} (h : WD w wB vD vR vL vM z n m ds rs) (k : ∀ i, (i = wB ∨ vD.ownBlock = some i ∨ vR.ownBlock = some i) → w'.heap[i]? = w.heap[i]?) : WD w' wB vD vR vL vM z n m ds rs :=
 ⟨h.box.kept (k wB (.inl rfl)), row_keep h.rd (fun g e => k g (.inr (.inl e))), row_keep h.rr (fun g e => k g (.inr (.inr e)))⟩
structure WsM (w : World) (wB : Nat) (U : Nat → Prop) (z : Int) (qs : List Pr4) (vD vR : Value) (aL : Option Addr) (cL : Nat) (aM : Option Addr) (cM n : Nat) (its : List (Value × Nat × Nat)) (P : Nat → Prop) : Prop where
 wd : WD w wB vD vR (.slice aL n cL) (.slice aM n cM) z qs.length qs.length (qs.map (·.dB)) (qs.map (·.rB))
 bk : Bk4 w P aL cL aM cM n its
 pr : ∀ p ∈ qs, p.T w
 ap : ∀ (i j : Nat) (p q : Pr4), i ≠ j → qs[i]? = some p → qs[j]? = some q → ∀ x, p.In x → ¬ q.In x
 apR : ∀ p ∈ qs, ∀ i, p.In i → ¬ (P i ∨ i = wB ∨ vD.ownBlock = some i ∨ vR.ownBlock = some i)
 apP : ∀ i, P i → ¬ (i = wB ∨ vD.ownBlock = some i ∨ vR.ownBlock = some i)
 z0 : 35 * (n : Int) ≤ z
 few : qs.length ≤ 5
 sub : ∀ i, (P i ∨ i = wB ∨ vD.ownBlock = some i ∨ vR.ownBlock = some i) → U i
 subp : ∀ p ∈ qs, ∀ i, p.In i → U i
 lt : ∀ i, U i → i < w.heap.size
variable {qs : List Pr4} {vD vR : Value} {aL aM : Option Addr} {cL cM n : Nat} {its : List (Value × Nat × Nat)}
theorem WsM.kept (h : WsM w wB U z qs vD vR aL cL aM cM n its P) (k : ∀ i, U i → w'.heap[i]? = w.heap[i]?) (hs : w.heap.size ≤ w'.heap.size) : WsM w' wB U z qs vD vR aL cL aM cM n its P :=
 ⟨h.wd.keep (fun i e => k i (h.sub i (.inr e))), h.bk.keep (fun i e => k i (h.sub i (.inl e))) hs, fun p hp => (h.pr p hp).kept (fun i e => k i (h.subp p hp i e)) hs, h.ap, h.apR, h.apP, h.z0, h.few, h.sub, h.subp, fun i hi => Nat.lt_of_lt_of_le (h.lt i hi) hs⟩
def Ws (w : World) (wB : Nat) (U : Nat → Prop) (z : Int) (qs : List Pr4) : Prop := ∃ vD vR aL cL aM cM n its P, WsM w wB U z qs vD vR aL cL aM cM n its P
theorem Ws.kept (h : Ws w wB U z qs) (k : ∀ i, U i → w'.heap[i]? = w.heap[i]?) (hs : w.heap.size ≤ w'.heap.size) : Ws w' wB U z qs := by
 obtain ⟨vD, vR, aL, cL, aM, cM, n, its, P, h⟩ := h
 exact ⟨vD, vR, aL, cL, aM, cM, n, its, P, h.kept k hs⟩
theorem Ws.lt (h : Ws w wB U z qs) : ∀ i, U i → i < w.heap.size := by
 obtain ⟨vD, vR, aL, cL, aM, cM, n, its, P, h⟩ := h
 exact h.lt
theorem Ws.later (h : Ws w wB U z qs) (b : Below w.heap.size w w') : Ws w' wB U z qs := h.kept (fun i hi => b.block i (h.lt i hi)) b.size
theorem Ws.few (h : Ws w wB U z qs) : qs.length ≤ 5 := by
 obtain ⟨vD, vR, aL, cL, aM, cM, n, its, P, h⟩ := h
 exact h.few
theorem Ws.pr (h : Ws w wB U z qs) {i : Nat} {p : Pr4} (hi : qs[i]? = some p) : p.T w ∧ ∀ x, p.In x → U x := by
 obtain ⟨vD, vR, aL, cL, aM, cM, n, its, P, h⟩ := h
 exact ⟨h.pr p (List.mem_of_getElem? hi), h.subp p (List.mem_of_getElem? hi)⟩
theorem set_cases {α : Type} {l : List α} {i j : Nat} {x y : α} (h : (l.set i x)[j]? = some y) : (j = i ∧ y = x) ∨ (j ≠ i ∧ l[j]? = some y) := by
 by_cases e : j = i
 ·subst e
  rw [List.getElem?_set_self'] at h
  cases hl : l[j]? with
  | none => rw [hl] at h; cases h
  | some v => rw [hl] at h; simp at h; exact .inl ⟨rfl, h.symm⟩
 ·rw [List.getElem?_set_ne (Ne.symm e)] at h
  exact .inr ⟨e, h⟩
theorem map_set_same {α : Type} {l : List α} {f : α → Nat} {i : Nat} {p x : α} (hi : l[i]? = some p) (h : f x = f p) : (l.set i x).map f = l.map f := by
 rw [List.map_set, h]
 refine List.ext_getElem? (fun j => ?_)
 by_cases e : i = j
 ·subst e
  rw [List.getElem?_set_self', List.getElem?_map, hi]
  rfl
 ·rw [List.getElem?_set_ne e]
theorem Ws.goE (h : Ws w wB U z qs) {i : Nat} {p p' : Pr4} (hi : qs[i]? = some p) (k : p'.T w') (hd : p'.dB = p.dB) (hr : p'.rB = p.rB) (g : Go4 w w' p.In p'.In) : Ws w' wB (fun x => U x ∨ p'.In x) z (qs.set i p') ∧ Go4 w w' U (fun x => U x ∨ p'.In x) := by
 obtain ⟨vD, vR, aL, cL, aM, cM, n, its, P, h⟩ := h
 have hp := List.mem_of_getElem? hi
 have far : ∀ x, U x → ¬ p.In x → w'.heap[x]? = w.heap[x]? := fun x hx hn => g.block x (h.lt x hx) hn
 have apn : ∀ j q, j ≠ i → qs[j]? = some q → ∀ x, p'.In x → ¬ q.In x := fun j q hj hq x hx hx2 => (g.new x hx).elim (fun e => h.ap i j p q (Ne.symm hj) hi hq x e hx2) (fun e => by have := h.lt x (h.subp q (List.mem_of_getElem? hq) x hx2); omega)
 refine ⟨⟨vD, vR, aL, cL, aM, cM, n, its, P, ?_⟩, g.wide (fun x hx => h.subp p hp x hx) (fun x hx => hx.elim .inr .inl)⟩
 refine ⟨?_, h.bk.keep (fun x hx => far x (h.sub x (.inl hx)) (fun e => h.apR p hp x e (.inl hx))) g.size, ?_, ?_, ?_, h.apP, h.z0, by rw [List.length_set]; exact h.few, fun x hx => .inl (h.sub x hx), ?_, ?_⟩
 ·rw [map_set_same hi hd, map_set_same hi hr, List.length_set]
  exact h.wd.keep (fun x hx => far x (h.sub x (.inr hx)) (fun e => h.apR p hp x e (.inr hx)))
 ·intro q hq
  obtain ⟨j, hj⟩ := List.getElem?_of_mem hq
  rcases set_cases hj with ⟨_, rfl⟩ | ⟨hne, hj2⟩
  ·exact k
  ·have hq2 := List.mem_of_getElem? hj2
   exact (h.pr q hq2).kept (fun x hx => far x (h.subp q hq2 x hx) (fun e => h.ap i j p q (Ne.symm hne) hi hj2 x e hx)) g.size
 ·intro a b q1 q2 hne h1 h2
  rcases set_cases h1 with ⟨rfl, rfl⟩ | ⟨n1, j1⟩
  ·rcases set_cases h2 with ⟨rfl, _⟩ | ⟨n2, j2⟩
   ·exact absurd rfl hne
   ·exact apn b q2 n2 j2
  ·rcases set_cases h2 with ⟨rfl, rfl⟩ | ⟨n2, j2⟩
   ·exact fun x hx hx2 => apn a q1 n1 j1 x hx2 hx
   ·exact h.ap a b q1 q2 hne j1 j2
 ·intro q hq x hx hx2
  obtain ⟨j, hj⟩ := List.getElem?_of_mem hq
  rcases set_cases hj with ⟨_, rfl⟩ | ⟨hne, hj2⟩
  ·exact (g.new x hx).elim (fun e => h.apR p hp x e hx2) (fun e => by have := h.lt x (h.sub x hx2); omega)
  ·exact h.apR q (List.mem_of_getElem? hj2) x hx hx2
 ·intro q hq x hx
  obtain ⟨j, hj⟩ := List.getElem?_of_mem hq
  rcases set_cases hj with ⟨_, rfl⟩ | ⟨hne, hj2⟩
  ·exact .inr hx
  ·exact .inl (h.subp q (List.mem_of_getElem? hj2) x hx)
 ·intro x hx
  rcases hx with hx | hx
  ·exact Nat.lt_of_lt_of_le (h.lt x hx) g.size
  ·exact T5.lt k x hx
theorem Ws.go (h : Ws w wB U z qs) {i : Nat} {p p' : Pr4} (hi : qs[i]? = some p) (k : p'.T w') (hd : p'.dB = p.dB) (hr : p'.rB = p.rB) (g : Go4 w w' p.In p'.In) : ∃ U', Ws w' wB U' z (qs.set i p') ∧ Go4 w w' U U' := ⟨_, h.goE hi k hd hr g⟩
theorem Ws.mono (h : Ws w wB U z qs) (k : ∀ i, U i → U' i) (lt' : ∀ i, U' i → i < w.heap.size) : Ws w wB U' z qs := by
 obtain ⟨vD, vR, aL, cL, aM, cM, n, its, P, h⟩ := h
 exact ⟨vD, vR, aL, cL, aM, cM, n, its, P, h.wd, h.bk, h.pr, h.ap, h.apR, h.apP, h.z0, h.few, fun i hi => k i (h.sub i hi), fun p hp i hi => k i (h.subp p hp i hi), lt'⟩
theorem Ws.same (h : Ws w wB U z qs) {i : Nat} {p p' : Pr4} (hi : qs[i]? = some p) (k : p'.T w') (hd : p'.dB = p.dB) (hr : p'.rB = p.rB) (g : Go4 w w' p.In p'.In) (hin : ∀ x, p'.In x → p.In x) : Ws w' wB U z (qs.set i p') ∧ Go4 w w' U U := by
 have e := h.goE hi k hd hr g
 have hs : ∀ x, (U x ∨ p'.In x) → U x := fun x hx => hx.elim id (fun q => (h.pr hi).2 x (hin x q))
 exact ⟨e.1.mono hs (fun x hx => Nat.lt_of_lt_of_le (h.lt x hx) g.size), e.2.less (fun x hx => .inl hx)⟩
theorem set_self {α : Type} {l : List α} {i : Nat} {x : α} (h : l[i]? = some x) : l.set i x = l := by
 refine List.ext_getElem? (fun j => ?_)
 by_cases e : i = j
 ·subst e
  rw [List.getElem?_set_self', h]
  rfl
 ·rw [List.getElem?_set_ne e]
theorem Ws.rows (h : Ws w wB U z qs) : ∃ aD cD aR cR, w.cell? ⟨wB, 0, none⟩ = some (.slice aD qs.length cD) ∧ w.cell? ⟨wB, 1, none⟩ = some (.slice aR qs.length cR) ∧ (∀ i p, qs[i]? = some p → ∃ gD gR, aD = some ⟨gD, 0, none⟩ ∧ aR = some ⟨gR, 0, none⟩ ∧ w.cell? ⟨gD, i, none⟩ = some (pv p.dB) ∧ w.cell? ⟨gR, i, none⟩ = some (pv p.rB)) := by
 obtain ⟨vD, vR, aL, cL, aM, cM, n, its, P, h⟩ := h
 obtain ⟨aD, cD, rfl⟩ := drow_form1 h.wd.rd
 obtain ⟨aR, cR, rfl⟩ := drow_form1 h.wd.rr
 refine ⟨aD, cD, aR, cR, h.wd.box.cells.1, h.wd.box.cells.2.1, fun i p hi => ?_⟩
 have key : ∀ {e : TypeId} {a : Option Addr} {c : Nat} {ks : List Nat} {k : Nat}, w.ownsRow 0 e 1 (.slice a qs.length c) qs.length (ks.map pv) → ks[i]? = some k → ∃ g, a = some ⟨g, 0, none⟩ ∧ w.cell? ⟨g, i, none⟩ = some (pv k) := by
  intro e a c ks k hr hk
  have hl := (List.getElem?_eq_some_iff.1 hi).1
  rcases hr.2 with ⟨_, h0⟩ | ⟨g, cap, cur, h3, h4, h5, h6, h7, h8, h9⟩
  ·omega
  ·simp only [Value.slice.injEq] at h3
   refine ⟨g, h3.1, ?_⟩
   have hq : (ks.map pv)[i]? = some (pv k) := by rw [List.getElem?_map, hk]; rfl
   rw [← h9, List.getElem?_take_of_lt (by omega)] at hq
   simp [World.cell?, h5]
   simpa using hq
 obtain ⟨gD, e1, c1⟩ := key h.wd.rd (k := p.dB) (by rw [List.getElem?_map, hi]; rfl)
 obtain ⟨gR, e2, c2⟩ := key h.wd.rr (k := p.rB) (by rw [List.getElem?_map, hi]; rfl)
 exact ⟨gD, gR, e1, e2, c1, c2⟩
theorem Ws.take (h : Ws w wB U z qs) {a : Option Addr} {m c : Nat} {bs : List Nat} (ho : Own w 0 (.slice a m c) m bs) (hm : m ≤ 140737488355000) (hap : ∀ g, (Value.slice a m c).ownBlock = some g → ¬ U g) (hz2 : z ≤ 4611686018427387904) :
  Calls Try.prog 29 #[.pointer (some ⟨wB, 2, none⟩), .slice a m c] w fun e w' => e = .returned (.tuple #[]) ∧ ∃ U', Ws w' wB U' (z + 2 * (m : Int) + 70) qs ∧ Go4 w w' (fun i => U i ∨ (Value.slice a m c).ownBlock = some i) U' := by
 obtain ⟨vD, vR, aL, cL, aM, cM, n, its, P, h⟩ := h
 refine (btake_any h.wd.box h.bk ho hm (fun g e => ⟨fun q => hap g e (h.sub g (.inl q)), fun q => hap g e (h.sub g (.inr (.inl q)))⟩) (fun q => h.apP wB q (.inl rfl)) h.z0 hz2).mono ?_
 rintro e w2 ⟨rfl, P2, aL2, cL2, aM2, cM2, n2, its2, box2, bk2, z2, g, nP2⟩
 refine ⟨rfl, fun i => U i ∨ P2 i, ⟨vD, vR, aL2, cL2, aM2, cM2, n2, its2, P2, ?_⟩, ?_⟩
 ·have far : ∀ x, U x → ¬ P x → x ≠ wB → w2.heap[x]? = w.heap[x]? := fun x hx h1 h2 => g.block x (h.lt x hx) (fun q => q.elim h1 (fun q => q.elim (fun e => hap x e hx) h2))
  have new : ∀ x, P2 x → (P x ∨ (Value.slice a m c).ownBlock = some x ∨ x = wB) ∨ w.heap.size ≤ x := fun x hx => g.new x (.inl hx)
  have nb := h.wd.nb
  have bR : ∀ x, (vD.ownBlock = some x ∨ vR.ownBlock = some x) → x ≠ wB := fun x hx e => by subst e; exact hx.elim nb.1 nb.2
  refine ⟨⟨box2, row_keep h.wd.rd (fun x e => far x (h.sub x (.inr (.inr (.inl e)))) (fun q => h.apP x q (.inr (.inl e))) (bR x (.inl e))), row_keep h.wd.rr (fun x e => far x (h.sub x (.inr (.inr (.inr e)))) (fun q => h.apP x q (.inr (.inr e))) (bR x (.inr e)))⟩, bk2, ?_, h.ap, ?_, ?_, z2, h.few, ?_, fun p hp x hx => .inl (h.subp p hp x hx), ?_⟩
  ·intro p hp
   exact (h.pr p hp).kept (fun x hx => far x (h.subp p hp x hx) (fun q => h.apR p hp x hx (.inl q)) (fun q => h.apR p hp x hx (.inr (.inl q)))) g.size
  ·intro p hp x hx hx2
   rcases hx2 with hx2 | hx2
   ·rcases new x hx2 with (q | q | q) | q
    ·exact h.apR p hp x hx (.inl q)
    ·exact hap x q (h.subp p hp x hx)
    ·exact h.apR p hp x hx (.inr (.inl q))
    ·have := h.lt x (h.subp p hp x hx); omega
   ·exact h.apR p hp x hx (.inr hx2)
  ·intro x hx hx2
   have hne : x ≠ wB → False := fun hw => by
    have hx3 : vD.ownBlock = some x ∨ vR.ownBlock = some x := hx2.resolve_left hw
    rcases new x hx with (q | q | q) | q
    ·exact h.apP x q hx2
    ·exact hap x q (h.sub x (.inr hx2))
    ·exact hw q
    ·have := h.lt x (h.sub x (.inr hx2)); omega
   refine hne (fun hw => ?_)
   subst hw
   exact nP2 hx
  ·intro x hx
   rcases hx with hx | hx
   ·exact .inr hx
   ·exact .inl (h.sub x (.inr hx))
  ·intro x hx
   rcases hx with hx | hx
   ·exact Nat.lt_of_lt_of_le (h.lt x hx) g.size
   ·exact bk2.lt x hx
 ·refine g.wide (fun x hx => ?_) (fun x hx => ?_)
  ·rcases hx with q | q | q
   ·exact .inl (h.sub x (.inl q))
   ·exact .inr q
   ·exact .inl (h.sub x (.inr (.inl q)))
  ·exact hx.elim (fun q => .inr (.inl q)) (fun q => .inl (.inl q))
end Go.Proofs.Ytlkhphhmhffdjaa

namespace Go.Proofs.Ytlkhphhmhffdjaa
open Go.RowKit Go.MapKept Go.Sort
variable {w w' W X : World} {O O' U U' P : Nat → Prop} {wB : Nat} {z : Int} {qs : List Pr4}
theorem snoc_cases {α : Type} {l : List α} {x y : α} {j : Nat} (h : (l ++ [x])[j]? = some y) : (l[j]? = some y) ∨ (j = l.length ∧ y = x) := by
 by_cases e : j < l.length
 ·rw [List.getElem?_append_left e] at h; exact .inl h
 ·rw [List.getElem?_append_right (by omega)] at h
  have : j - l.length = 0 := by
   by_cases q : j - l.length = 0
   ·exact q
   ·rw [List.getElem?_eq_none (by simp; omega)] at h; cases h
  rw [this] at h
  simp at h
  exact .inr ⟨by omega, h.symm⟩
theorem Ws.joined (h : Ws w wB U z qs) {p : Pr4} (k : p.T w) (hap : ∀ i, p.In i → ¬ U i) (h4 : qs.length ≤ 4) :
  Calls Try.prog 27 #[.pointer (some ⟨wB, 0, none⟩), .pointer (some ⟨p.dB, 0, none⟩), .int .i64 0, .pointer (some ⟨p.rB, 0, none⟩), .int .i64 0] w fun e w' => e = .returned (.bool true) ∧ ∃ U', Ws w' wB U' z (qs ++ [p]) ∧ Go4 w w' (fun i => U i ∨ p.In i) U' := by
 obtain ⟨vD, vR, aL, cL, aM, cM, n, its, P, h⟩ := h
 obtain ⟨aD, cD, rfl⟩ := drow_form1 h.wd.rd
 obtain ⟨aR, cR, rfl⟩ := drow_form1 h.wd.rr
 refine (joins_ok (dB := p.dB) (rB := p.rB) h.wd (by omega) (by omega)).mono ?_
 rintro e w2 ⟨rfl, aD2, cD2, aR2, cR2, wd2, g⟩
 have hl := h.lt
 have R1 : ∀ x, (x = wB ∨ (Value.slice aD qs.length cD).ownBlock = some x ∨ (Value.slice aR qs.length cR).ownBlock = some x) → U x := fun x hx => h.sub x (.inr hx)
 have new : ∀ x, (x = wB ∨ (Value.slice aD2 (qs.length + 1) cD2).ownBlock = some x ∨ (Value.slice aR2 (qs.length + 1) cR2).ownBlock = some x) → (x = wB ∨ (Value.slice aD qs.length cD).ownBlock = some x ∨ (Value.slice aR qs.length cR).ownBlock = some x) ∨ w.heap.size ≤ x := fun x hx => g.new x hx
 have klt : ∀ x, p.In x → x < w.heap.size := fun x hx => T5.lt k x hx
 have far : ∀ x, x < w.heap.size → ¬ (x = wB ∨ (Value.slice aD qs.length cD).ownBlock = some x ∨ (Value.slice aR qs.length cR).ownBlock = some x) → w2.heap[x]? = w.heap[x]? := fun x hx hn => g.block x hx hn
 refine ⟨rfl, fun x => (U x ∨ p.In x) ∨ (x = wB ∨ (Value.slice aD2 (qs.length + 1) cD2).ownBlock = some x ∨ (Value.slice aR2 (qs.length + 1) cR2).ownBlock = some x), ⟨.slice aD2 (qs.length + 1) cD2, .slice aR2 (qs.length + 1) cR2, aL, cL, aM, cM, n, its, P, ?_⟩, ?_⟩
 ·have hlen : (qs ++ [p]).length = qs.length + 1 := by simp
  refine ⟨?_, h.bk.keep (fun x hx => far x (hl x (h.sub x (.inl hx))) (h.apP x hx)) g.size, ?_, ?_, ?_, ?_, h.z0, by rw [hlen]; omega, ?_, ?_, ?_⟩
  ·rw [hlen, List.map_append, List.map_append]
   exact wd2
  ·intro q hq
   rcases List.mem_append.1 hq with hq | hq
   ·exact (h.pr q hq).kept (fun x hx => far x (hl x (h.subp q hq x hx)) (fun e => h.apR q hq x hx (.inr e))) g.size
   ·rw [List.mem_singleton] at hq
    subst hq
    exact T5.kept k (fun x hx => far x (klt x hx) (fun e => hap x hx (R1 x e))) g.size
  ·intro i j q1 q2 hne h1 h2
   rcases snoc_cases h1 with k1 | ⟨e1, k1⟩
   ·rcases snoc_cases h2 with k2 | ⟨e2, k2⟩
    ·exact h.ap i j q1 q2 hne k1 k2
    ·rw [k2]; exact fun x hx hx2 => hap x hx2 (h.subp q1 (List.mem_of_getElem? k1) x hx)
   ·rcases snoc_cases h2 with k2 | ⟨e2, k2⟩
    ·rw [k1]; exact fun x hx hx2 => hap x hx (h.subp q2 (List.mem_of_getElem? k2) x hx2)
    ·exact absurd (e1.trans e2.symm) hne
  ·intro q hq x hx hx2
   rcases List.mem_append.1 hq with hq | hq
   ·rcases hx2 with hx2 | hx2
    ·exact h.apR q hq x hx (.inl hx2)
    ·exact (new x hx2).elim (fun e => h.apR q hq x hx (.inr e)) (fun e => by have := hl x (h.subp q hq x hx); omega)
   ·rw [List.mem_singleton] at hq
    subst hq
    rcases hx2 with hx2 | hx2
    ·exact hap x hx (h.sub x (.inl hx2))
    ·exact (new x hx2).elim (fun e => hap x hx (R1 x e)) (fun e => by have := klt x hx; omega)
  ·intro x hx hx2
   exact (new x hx2).elim (fun e => h.apP x hx e) (fun e => by have := hl x (h.sub x (.inl hx)); omega)
  ·intro x hx
   rcases hx with hx | hx
   ·exact .inl (.inl (h.sub x (.inl hx)))
   ·exact .inr hx
  ·intro q hq x hx
   rcases List.mem_append.1 hq with hq | hq
   ·exact .inl (.inl (h.subp q hq x hx))
   ·rw [List.mem_singleton] at hq
    subst hq
    exact .inl (.inr hx)
  ·intro x hx
   rcases hx with (hx | hx) | hx
   ·exact Nat.lt_of_lt_of_le (hl x hx) g.size
   ·exact Nat.lt_of_lt_of_le (klt x hx) g.size
   ·rcases hx with hx | hx | hx
    ·rw [hx]; exact wd2.box.lt
    ·exact row_lt wd2.rd hx
    ·exact row_lt wd2.rr hx
 ·exact g.wide (fun x hx => .inl (R1 x hx)) (fun x hx => hx.elim .inr .inl)
structure OpD where
 kind : Int
 obj : Int
 nm : ByteArray
 nt : ByteArray
 aB : Option Addr
 nB : Nat
 kB : Nat
 bs : List Nat
 pos : Int
 num : Int
 aC : Option Addr
 nC : Nat
 kC : Nat
 cuts : List Int
 aF : Option Addr
 nF : Nat
 kF : Nat
 fs : List (GF × Value)
def OpD.vals (o : OpD) : List Value := [.int .i64 o.kind, .int .i64 o.obj, .string o.nm, .string o.nt, .slice o.aB o.nB o.kB, .int .i64 o.pos, .int .i64 o.num, .slice o.aC o.nC o.kC, .slice o.aF o.nF o.kF]
def OpD.val (o : OpD) : Value := .agg #[.int .i64 o.kind, .int .i64 o.obj, .string o.nm, .string o.nt, .slice o.aB o.nB o.kB, .int .i64 o.pos, .int .i64 o.num, .slice o.aC o.nC o.kC, .slice o.aF o.nF o.kF]
structure RdGA (w : World) (U : Nat → Prop) (a : Option Addr) (k : Nat) (l : List (GF × Value)) : Prop where
 rd : RdG4 w a k l
 ap : ∀ g off, a = some ⟨g, off, none⟩ → l ≠ [] → ¬ U g
 apd : ∀ x ∈ l, ∀ b off n c, x.2 = .slice (some ⟨b, off, none⟩) n c → n ≠ 0 → ¬ U b
theorem Rd.blk_lt {b off n c : Nat} {bs : List Nat} (h : Rd w (.slice (some ⟨b, off, none⟩) n c) bs) (hn : n ≠ 0) : b < w.heap.size := by
 obtain ⟨_, a, cap, h2, _, _, _, _, h7⟩ := h
 simp only [Value.slice.injEq] at h2
 obtain ⟨ha, hnn, _⟩ := h2
 rcases h7 with rfl | ⟨b2, off2, h8, hc⟩
 ·exact absurd hnn hn
 ·rw [h8] at ha
  simp only [Option.some.injEq, Addr.mk.injEq] at ha
  have hl := World.block_lt_of_cell? _ _ (hc 0 (by omega))
  simp only at hl
  omega
theorem RdA.go {v : Value} {bs : List Nat} (h : RdA w U v bs) (g : Go4 w w' U U') : RdA w' U' v bs :=
 ⟨h.1.go5 (fun b off n c e n0 hb => g.block b hb (h.2 b off n c e n0)), fun b off n c e n0 q => (g.new b q).elim (h.2 b off n c e n0) (fun q => by have := (e ▸ h.1).blk_lt n0; omega)⟩
theorem RdI4.go2 {a : Option Addr} {k : Nat} {js : List Int} (h : RdI4 w U a k js) (g : Go4 w w' U U') : RdI4 w' U' a k js := h.go g
theorem RdGA.go {a : Option Addr} {k : Nat} {l : List (GF × Value)} (h : RdGA w U a k l) (g : Go4 w w' U U') : RdGA w' U' a k l := by
 have hne : ∀ (i : Nat) (x : GF × Value), l[i]? = some x → l ≠ [] := fun i x hx e => by rw [e] at hx; simp at hx
 refine ⟨⟨h.rd.cap, fun i x hx => ?_, fun x hx => ?_⟩, fun b off e ne q => ?_, fun x hx b off n c e n0 q => ?_⟩
 ·obtain ⟨b, off, e, c0, c1, c2⟩ := h.rd.cel i x hx
  have hb := World.block_lt_of_cell? _ _ c0
  have hk := g.block b hb (h.ap b off e (hne i x hx))
  exact ⟨b, off, e, (World.cell?_of_block hk).trans c0, (World.cell?_of_block hk).trans c1, (World.cell?_of_block hk).trans c2⟩
 ·obtain ⟨ap, cp, e, hr⟩ := h.rd.dat x hx
  exact ⟨ap, cp, e, hr.go5 (fun b off n c e n0 hb => g.block b hb (h.apd x hx b off n c e n0))⟩
 ·rcases g.new b q with q | q
  ·exact h.ap b off e ne q
  ·cases hl : l with
   | nil => exact ne hl
   | cons y ys =>
    obtain ⟨b2, off2, e2, c0, _⟩ := h.rd.cel 0 y (by rw [hl]; rfl)
    rw [e] at e2
    cases e2
    have := World.block_lt_of_cell? _ _ c0
    simp only at this
    omega
 ·rcases g.new b q with q | q
  ·exact h.apd x hx b off n c e n0 q
  ·obtain ⟨ap, cp, e2, hr⟩ := h.rd.dat x hx
   rw [e] at hr
   have := hr.blk_lt n0
   omega
structure RdOp (w : World) (U : Nat → Prop) (o : OpD) : Prop where
 b : RdA w U (.slice o.aB o.nB o.kB) o.bs
 lb : o.bs.length ≤ 1048576
 c : RdI4 w U o.aC o.kC o.cuts
 nc : o.nC = o.cuts.length
 cn : o.aC = none → o.kC = 0
 lc : o.cuts.length ≤ 1048576
 f : RdGA w U o.aF o.kF o.fs
 nf : o.nF = o.fs.length
 lf : o.fs.length ≤ 300000
 ld : ∀ x ∈ o.fs, x.1.2.1.length ≤ 1048576
 po : -9223372036854775808 ≤ o.pos ∧ o.pos ≤ 9223372036854775807
 nu : -9223372036854775808 ≤ o.num ∧ o.num ≤ 9223372036854775807
 ob : -9223372036854775808 ≤ o.obj ∧ o.obj ≤ 9223372036854775807
theorem RdOp.go {o : OpD} (h : RdOp w U o) (g : Go4 w w' U U') : RdOp w' U' o := ⟨h.b.go g, h.lb, h.c.go2 g, h.nc, h.cn, h.lc, h.f.go g, h.nf, h.lf, h.ld, h.po, h.nu, h.ob⟩
end Go.Proofs.Ytlkhphhmhffdjaa
