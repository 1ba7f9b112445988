import Derived.Test.YtchebhafabhabaaGreatDoorK18
namespace Go.Proofs.YtchebhafabhabaaGreatDoor
open Go.RowKit Go.Shelf
set_option linter.unusedVariables false
attribute [local go_sem] Oper.semAt_some

theorem range_fn {α M : Type} {q : Nat} {P : Program} {g : Operand} {ps : Array Tmp} {assign body : Code} {Q : Exit → Act → World → Prop} {a : Act} {w : World} {n : Nat} {gf : Nat} {lb : Array Value} {l0 : Nat} {r0 : Loop} (hl0 : w.heap[l0]? = some (.loop r0))
  (hg : a.eval g = .func (.func gf) #[] lb) (eg : ∀ args w, (callFunc gf args).run P w = .ok (.enter gf args) w)
  {encs : α → Array Value} {Gd : (Nat → Prop) → List α → α → World → Prop} {xb : α → Nat → Prop} {No : Nat → Prop} {S Sp : List α → Prop} (hseq : SeqF M q P gf lb encs Gd xb No S Sp w) (hps : ∀ x, (encs x).size = ps.size)
  (I : List α × M → World → Prop) (Ix : Code → List α × M → World → Prop) (O : List α × M → Nat → Prop) (m0 : M) (hNo : ∀ k, No k → k < w.heap.size)
  (hIs : ∀ st X, I st X → w.heap.size ≤ X.heap.size) (hO : ∀ st X k, I st X → O st k → k < X.heap.size ∧ ¬ No k ∧ k ≠ w.heap.size) (hI : StF w.heap.size I O) (hIx : ∀ c, StF w.heap.size (Ix c) O) (hOx : ∀ c st X k, Ix c st X → O st k → k < X.heap.size ∧ k ≠ w.heap.size) (h0 : I ([], m0) w)
  (hGd : ∀ (C C' : Nat → Prop) pre x X, (∀ k, C' k → C k) → Gd C pre x X → Gd C' pre x X) (hxb : ∀ C pre x X k, Gd C pre x X → xb x k → w.heap.size + 1 ≤ k)
  (Ax : List α → M → α → Act → World → Prop) (hAx : ∀ pre mm x a' (W : World) (o o' : Obj), W.heap[w.heap.size]? = some o → o.isCells = false → Ax pre mm x a' W → Ax pre mm x a' (W.putObj w.heap.size o'))
  (hassign : ∀ (l : Nat) (pre : List α) (mm : M) (x : α) (W : World) (K : Act → World → Prop), I (pre, mm) W → w.heap.size + 1 ≤ W.heap.size → Gd (O (pre, mm)) pre x W → (∀ a' W', Below W.heap.size W W' → Ax pre mm x a' W' → K a' W') →
   assign.wpIn (Fence.wide.inRound l) n P (Exit.then K (fun _ _ _ => False)) { tmps := (ps.zip (encs x)).foldl (fun t (p, v) => t.setIfInBounds p v) a.tmps, defers := [] } W)
  (hbody : ∀ (l : Nat) (pre : List α) (mm : M) (x : α) (a' : Act) (W : World), l = w.heap.size → (∃ r, W.heap[l]? = some (.loop r)) → I (pre, mm) W → Ax pre mm x a' W → body.wpIn (Fence.wide.inRound l) n P (postF q I Ix O xb (O (pre, mm)) pre x W) a' W)
  (hdone : ∀ (xs : List α) (mm : M) (W : World), S xs → I (xs, mm) W → Q .normal a W)
  (hstop : ∀ (c : Code) (pre : List α) (mm : M) (W : World), Sp pre → Ix c (pre, mm) W → c.wpIn (Fence.wide.inRound l0) n P Q a W) :
  (Code.rangeFunc g ps assign body).wpIn (Fence.wide.inRound l0) n P Q a w := by
 refine wpIn_rangeFunc fun fn hfn => ?_
 let rc : LoopState → Option Code → Obj := fun st pe => .loop { state := st, pending := pe, fn, tmps := a.tmps, params := ps, assign, body, defers := r0.defers }
 let Bk : Obj → World → Prop := fun r W => W.heap[w.heap.size]? = some r
 have T0 : Below w.heap.size w (w.alloc (rc .ready none)) := (Below.refl _ w).alloc (Nat.le_refl _) _
 have k0 : Bk (rc .ready none) (w.alloc (rc .ready none)) := World.alloc_heap_new w _
 have hsz : (w.alloc (rc .ready none)).heap.size = w.heap.size + 1 := by simp
 obtain ⟨W1, hW1⟩ : ∃ W1, W1 = w.alloc (rc .ready none) := ⟨_, rfl⟩
 rw [← hW1] at T0 k0 hsz
 refine ⟨w.heap.size, [], W1, { target := .fn (.func gf) lb, args := #[.func (.yield w.heap.size) #[] #[]] }, W1, gf, #[.func (.yield w.heap.size) #[] #[]] ++ lb, W1, ?_, ?_, fun _ _ => trivial, ?_, fun h => (by cases h), ?_⟩
 ·rw [hW1]; exact run_enterLoop_inner hl0 _ _ _ _ _
 ·simp only [resolve, hg]
  simp [go_sem]
 ·simp [invoke, go_sem, eg]
 have lt1 : ∀ (r : Obj) (X : World), Bk r X → w.heap.size < X.heap.size := fun r X h => (Array.getElem?_eq_some_iff.1 h).1
 have keepC : ∀ (r : Obj) (X Y : World) (C : Nat → Prop), Bk r X → Fb X Y C → ¬ C w.heap.size → Bk r Y := fun r X Y C h f c1 => (f.block _ (lt1 r X h) c1).trans h
 have putB : ∀ (r r' : Obj) (X : World), Bk r X → Bk r' (X.putObj w.heap.size r') := fun r r' X h => World.putObj_heap_same (Array.getElem?_eq_some_iff.1 h).1
 have putI : ∀ (st : List α × M) (o : Obj) (X : World), I st X → I st (X.putObj (w.heap.size) o) := fun st o X h => hI st X _ _ h (fb_put X _ o) (fun k _ ho e => (hO st X k h ho).2.2 e) (fun k (e : k = w.heap.size) => by omega)
 have putX : ∀ (c : Code) (st : List α × M) (o : Obj) (X : World), Ix c st X → Ix c st (X.putObj (w.heap.size) o) := fun c st o X h => hIx c st X _ _ h (fb_put X _ o) (fun k _ ho e => (hOx c st X k h ho).2 e) (fun k (e : k = w.heap.size) => by omega)
 refine CallsIn.mono (CallsIn.inRound l0 (hseq w.heap.size (n - 1) (fun st W => I st W ∧ w.heap.size + 1 ≤ W.heap.size ∧ Bk (rc .ready none) W) (fun st W => ∃ c, Ix c st W ∧ Bk (rc .done (some c)) W) (fun st k => O st k ∨ k = w.heap.size) _ m0 T0 (by rw [hsz]; exact Nat.le_refl _) (fun st X h => by rw [hsz]; exact h.2.1)
  ?lt ?ltx
  (fun st X Y C ⟨h1, h2, h3⟩ f hc hB => ⟨hI st X Y C h1 f (fun k hk ho => hc k hk (.inl ho)) hB, Nat.le_trans h2 f.size, keepC _ X Y C h3 f (hc _ (by omega) (.inr rfl))⟩)
  (fun st X Y C ⟨c, h1, h2⟩ f hc hB => ⟨c, hIx c st X Y C h1 f (fun k hk ho => hc k hk (.inl ho)) hB, keepC _ X Y C h2 f (hc _ (lt1 _ X h2) (.inr rfl))⟩)
  ?_ ⟨hI ([], m0) w _ (fun _ => False) h0 (Fb.of_below T0) (fun _ _ _ h => h) (fun _ h => h.elim), by rw [hsz]; omega, k0⟩)) ?_
 case lt =>
  rintro st X k ⟨h1, h2, h3⟩ (ho | ho)
  ·exact ⟨(hO st X k h1 ho).1, (hO st X k h1 ho).2.1⟩
  ·exact ⟨by omega, fun h => by have := hNo k h; omega⟩
 case ltx =>
  rintro st X k ⟨c, h1, h2⟩ (ho | ho)
  ·exact (hOx c st X k h1 ho).1
  ·have := lt1 _ X h2; omega
 ·rintro m pre mm x W ⟨hi, hsW, hb⟩ hgd
  have hgd' : Gd (O (pre, mm)) pre x W := hGd _ _ _ _ _ (fun k hk => .inl hk) hgd
  have hxl : ∀ k, xb x k → w.heap.size + 1 ≤ k := fun k hk => hxb _ _ _ _ k hgd hk
  refine ⟨fn, _, assign, body, run_yield hb (hps x), ?_⟩
  refine roundIn_anyDepthB (roundIn_of_wpIn hfn (hassign _ pre mm x W _ hi hsW hgd' ?_))
  intro a' Wa ba hax
  have hba : Bk (rc .ready none) Wa := keepC _ W Wa (fun _ => False) hb (Fb.of_below ba) (fun h => h)
  have hia : I (pre, mm) Wa := hI _ _ _ (fun _ => False) hi (Fb.of_below ba) (fun _ _ _ h => h) (fun _ h => h.elim)
  refine ⟨_, run_beginRound hba rfl, ?_⟩
  have hb1 := putB _ (rc .busy none) Wa hba
  have hi1 := putI (pre, mm) (rc .busy none) Wa hia
  refine wpIn_mono (hbody _ pre mm x a' _ rfl ⟨_, hb1⟩ hi1 (hAx pre mm x a' Wa _ _ hba rfl hax)) ?_
  have fin : ∀ (jump : Option Code) (W3 : World), Bk (rc .busy none) W3 → (Instr.endRound (w.heap.size) jump).run P W3 = .ok (.bool jump.isNone) (W3.putObj (w.heap.size) (rc (if jump.isNone then .ready else .done) jump)) := fun jump W3 h => run_endRound jump h
  have sub : ∀ (W3 : World) (o : Obj), Fb (Wa.putObj (w.heap.size) (rc .busy none)) W3 (fun k => O (pre, mm) k ∨ xb x k) → Fb W (W3.putObj (w.heap.size) o) (fun k => (O (pre, mm) k ∨ k = w.heap.size) ∨ xb x k) := fun W3 o f =>
   (((Fb.of_below ba).trans ((fb_put Wa _ _).mono (fun k _ e => .inl (.inr e)))).trans (f.mono (fun k _ e => by rcases e with e | e; exact .inl (.inl e); exact .inr e))).trans ((fb_put W3 _ o).mono (fun k _ e => .inl (.inr e)))
  have szW : W.heap.size ≤ (Wa.putObj (w.heap.size) (rc .busy none)).heap.size := by simpa using ba.size
  have out : ∀ (c : Code) (W3 : World), pre.length = q ∧ RdF (Ix c) O xb (O (pre, mm)) pre x (Wa.putObj (w.heap.size) (rc .busy none)) W3 → ∃ v w', (Instr.endRound (w.heap.size) (some c)).run P W3 = .ok v w' ∧ ((pre.length ≠ q ∧ Ending.returned v = .returned (.bool true) ∧ RdF (fun st W => I st W ∧ w.heap.size + 1 ≤ W.heap.size ∧ Bk (rc .ready none) W) (fun st k => O st k ∨ k = w.heap.size) xb (fun k => O (pre, mm) k ∨ k = w.heap.size) pre x W w') ∨ (pre.length = q ∧ Ending.returned v = .returned (.bool false) ∧ RdF (fun st W => ∃ c, Ix c st W ∧ Bk (rc .done (some c)) W) (fun st k => O st k ∨ k = w.heap.size) xb (fun k => O (pre, mm) k ∨ k = w.heap.size) pre x W w')) := fun c W3 h => by
   obtain ⟨hq, mm', hx, f, hn⟩ := h
   have hb3 := keepC _ _ _ _ hb1 f (fun h => by rcases h with h | h; exact (hO _ _ _ hi1 h).2.2 rfl; have := hxl _ h; omega)
   refine ⟨_, _, fin (some c) W3 hb3, .inr ⟨hq, rfl, mm', ⟨c, putX c _ _ _ hx, putB _ _ _ hb3⟩, sub W3 _ f, ?_⟩⟩
   rintro k (hk | hk)
   ·rcases hn k hk with h | h | h
    ·exact .inl (.inl h)
    ·exact .inr (.inl h)
    ·exact .inr (.inr (Nat.le_trans szW h))
   ·exact .inl (.inr hk)
  rintro e a3 W3 hp
  cases e with
  | normal =>
   obtain ⟨hq, mm', hi3, f, hn⟩ := hp
   have hb3 := keepC _ _ _ _ hb1 f (fun h => by rcases h with h | h; exact (hO _ _ _ hi1 h).2.2 rfl; have := hxl _ h; omega)
   refine ⟨_, _, fin none W3 hb3, .inl ⟨hq, rfl, mm', ⟨putI _ _ _ hi3, ?_, putB _ _ _ hb3⟩, sub W3 _ f, ?_⟩⟩
   ·exact lt1 _ _ (putB _ (rc .ready none) _ hb3)
   ·rintro k (hk | hk)
    ·rcases hn k hk with h | h | h
     ·exact .inl (.inl h)
     ·exact .inr (.inl h)
     ·exact .inr (.inr (Nat.le_trans szW h))
    ·exact .inl (.inr hk)
  | ret => exact out .ret W3 hp
  | exit id => exact out (.exit id) W3 hp
  | goto t => exact out (.goto t) W3 hp
  | panic ch => exact hp.elim
  | outgrown => exact hp.elim
 ·rintro e W2 ⟨⟨v, rfl⟩, (⟨xs, mm, hS, hi, hs2, hb⟩ | ⟨pre, mm, hSp, c, hi, hb⟩)⟩
  ·exact ⟨none, _, run_endLoop hb (by simp), by simpa using hdone xs mm _ hS (putI _ _ _ hi)⟩
  ·exact ⟨some c, _, run_endLoop hb (by simp), by simpa using hstop c pre mm _ hSp (putX _ _ _ _ hi)⟩
end Go.Proofs.YtchebhafabhabaaGreatDoor

namespace Go.Proofs.YtchebhafabhabaaGreatDoor
open Go.RowKit Go.Shelf
set_option linter.unusedVariables false

theorem range_fb {α M : Type} {id q : Nat} {P : Program} {g : Operand} {ps : Array Tmp} {assign body : Code} {Q : Exit → Act → World → Prop} {a : Act} {w : World} {n : Nat} {gf : Nat} {lb : Array Value}
  (hg : a.eval g = .func (.func gf) #[] lb) (eg : ∀ args w, (callFunc gf args).run P w = .ok (.enter gf args) w)
  {encs : α → Array Value} {Gd : (Nat → Prop) → List α → α → World → Prop} {xb : α → Nat → Prop} {No : Nat → Prop} {S Sp : List α → Prop} (hseq : SeqF M q P gf lb encs Gd xb No S Sp w) (hps : ∀ x, (encs x).size = ps.size)
  (I Ie : List α × M → World → Prop) (O : List α × M → Nat → Prop) (m0 : M) (hNo : ∀ k, No k → k < w.heap.size)
  (hIs : ∀ st X, I st X → w.heap.size ≤ X.heap.size) (hO : ∀ st X k, I st X → O st k → k < X.heap.size ∧ ¬ No k ∧ k ≠ w.heap.size ∧ k ≠ w.heap.size + 1) (hI : StF w.heap.size I O) (hIe : StF w.heap.size Ie O) (hOe : ∀ st X k, Ie st X → O st k → k < X.heap.size ∧ k ≠ w.heap.size ∧ k ≠ w.heap.size + 1) (h0 : I ([], m0) w)
  (hGd : ∀ (C C' : Nat → Prop) pre x X, (∀ k, C' k → C k) → Gd C pre x X → Gd C' pre x X) (hxb : ∀ C pre x X k, Gd C pre x X → xb x k → w.heap.size + 2 ≤ k)
  (Ax : List α → M → α → Act → World → Prop) (hAx : ∀ pre mm x a' (W : World) (o o' : Obj), W.heap[w.heap.size + 1]? = some o → o.isCells = false → Ax pre mm x a' W → Ax pre mm x a' (W.putObj (w.heap.size + 1) o'))
  (hassign : ∀ (l : Nat) (pre : List α) (mm : M) (x : α) (W : World) (K : Act → World → Prop), I (pre, mm) W → w.heap.size + 2 ≤ W.heap.size → Gd (O (pre, mm)) pre x W → (∀ a' W', Below W.heap.size W W' → Ax pre mm x a' W' → K a' W') →
   assign.wpIn (Fence.wide.inRound l) n P (Exit.then K (fun _ _ _ => False)) { tmps := (ps.zip (encs x)).foldl (fun t (p, v) => t.setIfInBounds p v) a.tmps, defers := [] } W)
  (hbody : ∀ (l : Nat) (pre : List α) (mm : M) (x : α) (a' : Act) (W : World), l = w.heap.size + 1 → (∃ r, W.heap[l]? = some (.loop r)) → I (pre, mm) W → Ax pre mm x a' W → body.wpIn (Fence.wide.inRound l) n P (postF q I (fun c st X => c = .exit id ∧ Ie st X) O xb (O (pre, mm)) pre x W) a' W)
  (hend : ∀ (D : Nat) (xs : List α) (mm : M) (W : World), D = w.heap.size → (S xs ∧ I (xs, mm) W ∨ Sp xs ∧ Ie (xs, mm) W) → W.heap[D]? = some (.deferred (some [])) → Q .normal { a with defers := { target := .collected D, args := #[] } :: a.defers } W) :
  (Code.rangeFunc g ps assign body).wpIn Fence.wide n P (Exit.inBlock id Q) a w := by
 refine range_f hg eg hseq hps I (fun c st X => c = .exit id ∧ Ie st X) O m0 hNo hIs hO hI (fun c st X Y C ⟨h, k⟩ f hc hB => ⟨h, hIe st X Y C k f hc hB⟩) (fun c st X k ⟨h, hk⟩ ho => hOe st X k hk ho) h0 hGd hxb Ax hAx hassign hbody ?_ ?_
 ·intro D xs mm W hD hS hi hd
  exact hend D xs mm W hD (.inl ⟨hS, hi⟩) hd
 ·rintro D c pre mm W hD hSp ⟨rfl, hi⟩ hd
  refine wpIn_exit ?_
  simp only [Exit.inBlock, if_true]
  exact hend D pre mm W hD (.inr ⟨hSp, hi⟩) hd
theorem range_fnb {α M : Type} {id q : Nat} {P : Program} {g : Operand} {ps : Array Tmp} {assign body : Code} {Q : Exit → Act → World → Prop} {a : Act} {w : World} {n : Nat} {gf : Nat} {lb : Array Value} {l0 : Nat} {r0 : Loop} (hl0 : w.heap[l0]? = some (.loop r0))
  (hg : a.eval g = .func (.func gf) #[] lb) (eg : ∀ args w, (callFunc gf args).run P w = .ok (.enter gf args) w)
  {encs : α → Array Value} {Gd : (Nat → Prop) → List α → α → World → Prop} {xb : α → Nat → Prop} {No : Nat → Prop} {S Sp : List α → Prop} (hseq : SeqF M q P gf lb encs Gd xb No S Sp w) (hps : ∀ x, (encs x).size = ps.size)
  (I Ie : List α × M → World → Prop) (O : List α × M → Nat → Prop) (m0 : M) (hNo : ∀ k, No k → k < w.heap.size)
  (hIs : ∀ st X, I st X → w.heap.size ≤ X.heap.size) (hO : ∀ st X k, I st X → O st k → k < X.heap.size ∧ ¬ No k ∧ k ≠ w.heap.size) (hI : StF w.heap.size I O) (hIe : StF w.heap.size Ie O) (hOe : ∀ st X k, Ie st X → O st k → k < X.heap.size ∧ k ≠ w.heap.size) (h0 : I ([], m0) w)
  (hGd : ∀ (C C' : Nat → Prop) pre x X, (∀ k, C' k → C k) → Gd C pre x X → Gd C' pre x X) (hxb : ∀ C pre x X k, Gd C pre x X → xb x k → w.heap.size + 1 ≤ k)
  (Ax : List α → M → α → Act → World → Prop) (hAx : ∀ pre mm x a' (W : World) (o o' : Obj), W.heap[w.heap.size]? = some o → o.isCells = false → Ax pre mm x a' W → Ax pre mm x a' (W.putObj w.heap.size o'))
  (hassign : ∀ (l : Nat) (pre : List α) (mm : M) (x : α) (W : World) (K : Act → World → Prop), I (pre, mm) W → w.heap.size + 1 ≤ W.heap.size → Gd (O (pre, mm)) pre x W → (∀ a' W', Below W.heap.size W W' → Ax pre mm x a' W' → K a' W') →
   assign.wpIn (Fence.wide.inRound l) n P (Exit.then K (fun _ _ _ => False)) { tmps := (ps.zip (encs x)).foldl (fun t (p, v) => t.setIfInBounds p v) a.tmps, defers := [] } W)
  (hbody : ∀ (l : Nat) (pre : List α) (mm : M) (x : α) (a' : Act) (W : World), l = w.heap.size → (∃ r, W.heap[l]? = some (.loop r)) → I (pre, mm) W → Ax pre mm x a' W → body.wpIn (Fence.wide.inRound l) n P (postF q I (fun c st X => c = .exit id ∧ Ie st X) O xb (O (pre, mm)) pre x W) a' W)
  (hend : ∀ (xs : List α) (mm : M) (W : World), (S xs ∧ I (xs, mm) W ∨ Sp xs ∧ Ie (xs, mm) W) → Q .normal a W) :
  (Code.rangeFunc g ps assign body).wpIn (Fence.wide.inRound l0) n P (Exit.inBlock id Q) a w := by
 refine range_fn hl0 hg eg hseq hps I (fun c st X => c = .exit id ∧ Ie st X) O m0 hNo hIs hO hI (fun c st X Y C ⟨h, k⟩ f hc hB => ⟨h, hIe st X Y C k f hc hB⟩) (fun c st X k ⟨h, hk⟩ ho => hOe st X k hk ho) h0 hGd hxb Ax hAx hassign hbody ?_ ?_
 ·intro xs mm W hS hi
  exact hend xs mm W (.inl ⟨hS, hi⟩)
 ·rintro c pre mm W hSp ⟨rfl, hi⟩
  refine wpIn_exit ?_
  simp only [Exit.inBlock, if_true]
  exact hend pre mm W (.inr ⟨hSp, hi⟩)
end Go.Proofs.YtchebhafabhabaaGreatDoor

namespace Go.Proofs.YtchebhafabhabaaGreatDoor
open Go.RowKit Go.Shelf
set_option linter.unusedVariables false

theorem cell_putN {W : World} {r : Nat} {o : Obj} (o' : Obj) {p : Addr} {v : Value} (ho : W.heap[r]? = some o) (hc : o.isCells = false) (h : W.cell? p = some v) : (W.putObj r o').cell? p = some v := by
 by_cases k : p.block = r
 ·exfalso
  unfold World.cell? at h
  rw [k, ho] at h
  cases o <;> simp_all [Obj.isCells]
 ·have : (W.putObj r o').heap[p.block]? = W.heap[p.block]? := World.putObj_heap_other k
  unfold World.cell? at *
  rw [this]; exact h
theorem Rd.putN {W : World} {r : Nat} {o : Obj} (o' : Obj) {v : Value} {bs : List Nat} (ho : W.heap[r]? = some o) (hc : o.isCells = false) (h : Rd W v bs) : Rd (W.putObj r o') v bs := by
 obtain ⟨h1, a, cap, h2, h3, h4, h5, h6, h7⟩ := h
 refine ⟨h1, a, cap, h2, h3, h4, h5, h6, ?_⟩
 rcases h7 with h | ⟨b, off, rfl, hk⟩
 ·exact .inl h
 ·exact .inr ⟨b, off, rfl, fun i hi => cell_putN o' ho hc (hk i hi)⟩
theorem EntD.Ok.putN {W : World} {r : Nat} {o : Obj} (o' : Obj) {e : EntD} (ho : W.heap[r]? = some o) (hc : o.isCells = false) (h : EntD.Ok W e) : EntD.Ok (W.putObj r o') e := ⟨h.1.putN o' ho hc, h.2.1.putN o' ho hc, h.2.2.putN o' ho hc⟩
theorem EBox.putN {W : World} {r g : Nat} {o : Obj} (o' : Obj) {e : EntD} (ho : W.heap[r]? = some o) (hc : o.isCells = false) (h : EBox W g e) : EBox (W.putObj r o') g e := by
 unfold EBox at *
 have k : g ≠ r := fun k => by
  rw [k, ho] at h
  cases h
  simp [Obj.isCells] at hc
 rw [World.putObj_heap_other k]; exact h
theorem Fb.set1 {w : World} {O : Nat → Prop} {g : Nat} (h : O g) (x : Value) : Fb w (w.setCell ⟨g, 0, none⟩ x) O := have b := (Below.refl g w).setCell (p := ⟨g, 0, none⟩) (Nat.le_refl _) x
 ⟨b.os, b.tape, b.output, b.size, fun k _ ho => Below.heap_setCell _ _ _ _ (by rintro rfl; exact ho h)⟩
theorem wrapI5 (z : Int) (h0 : 0 ≤ z) (h1 : z < 9223372036854775808) : IntKind.i64.wrap z = z := by
 rw [IntKind.wrap_i64]
 omega
theorem wrap64I5 (z : Int) (h0 : 0 ≤ z) (h1 : z < 9223372036854775808) : wrap64 z = z := by unfold wrap64; omega
end Go.Proofs.YtchebhafabhabaaGreatDoor

namespace Go.Proofs.YtchebhafabhabaaGreatDoor
open Go.RowKit Go.Shelf
set_option linter.unusedVariables false

theorem Own.put2 {w : World} {B n i : Nat} {v : Value} {xs : List Nat} (h : Own w B v n xs) (hi : i < B) (o : Obj) : Own (w.putObj i o) B v n xs := h.fb (fb_put w i o) (fun k hk e => by have := (h.2.lt k hk).1; omega)
theorem YGF.put {l : List (List Nat × List Nat)} {B0 i : Nat} {C : Nat → Prop} {pre : List EntD} {x : EntD} {W : World} {o : Obj} (h : YGF l B0 C pre x W) (hi : i < B0) (ho : W.heap[i]? = some o) (hc : o.isCells = false) (o' : Obj) : YGF l B0 C pre x (W.putObj i o') := by
 obtain ⟨⟨h1, h2, h3⟩, Bq, k1, k2, k3, k4, k5, k6⟩ := h
 exact ⟨⟨h1, h2.putN o' ho hc, h3⟩, Bq, k1, k2, k3.put2 (by omega) o', k4.put2 (by omega) o', k5.put2 (by omega) o', k6⟩
theorem YGF.later {l : List (List Nat × List Nat)} {B0 : Nat} {C : Nat → Prop} {pre : List EntD} {x : EntD} {W W' : World} (h : YGF l B0 C pre x W) (b : Below W.heap.size W W') : YGF l B0 C pre x W' := by
 obtain ⟨⟨h1, h2, h3⟩, Bq, k1, k2, k3, k4, k5, k6⟩ := h
 exact ⟨⟨h1, h2.later b, h3⟩, Bq, k1, k2, k3.later b, k4.later b, k5.later b, k6⟩
theorem range_e {M : Type} {id q p sl n g r b ne ce np cp B0 gc : Nat} {E P : List Nat} {l : List (List Nat × List Nat)} {o : Operand} {assign body : Code} {Q : Exit → Act → World → Prop} {A : Array Value} {ds : List Deferred} {w : World}
  (hg : ({ tmps := A, defers := ds } : Act).eval o = .func (.func 73) #[] #[.pointer (some ⟨gc, 0, none⟩)])
  (hL : Blad r l E P) (hk : Lk w B0 g r l.length b ne ce E P np cp) (hc : Cell1B w gc (.pointer (some ⟨g, 0, none⟩)) 58) (hbl : b < w.heap.size)
  (I Ie : List EntD × M → World → Prop) (O : List EntD × M → Nat → Prop) (m0 : M)
  (hIs : ∀ st X, I st X → w.heap.size ≤ X.heap.size) (hO : ∀ st X k, I st X → O st k → k < X.heap.size ∧ (k ≠ g ∧ k ≠ b) ∧ k ≠ w.heap.size ∧ k ≠ w.heap.size + 1) (hI : StF w.heap.size I O) (hIe : StF w.heap.size Ie O) (hOe : ∀ st X k, Ie st X → O st k → k < X.heap.size ∧ k ≠ w.heap.size ∧ k ≠ w.heap.size + 1) (h0 : I ([], m0) w)
  (hassign : ∀ (l' : Nat) (x : EntD) (Z : World) (K : Act → World → Prop), EntD.Ok Z x → (∀ Z', Below Z.heap.size Z Z' → EBox Z' Z.heap.size x → K { tmps := (A.setIfInBounds p (.agg x.cells)).setIfInBounds sl (.pointer (some ⟨Z.heap.size, 0, none⟩)), defers := [] } Z') → assign.wpIn (Fence.wide.inRound l') n Tryz.prog (Exit.then K (fun _ _ _ => False)) { tmps := A.setIfInBounds p (.agg x.cells), defers := [] } Z)
  (hbody : ∀ (l' : Nat) (pre : List EntD) (mm : M) (x : EntD) (Bx : Nat) (X : World), (∃ rr, X.heap[l']? = some (.loop rr)) → l' = w.heap.size + 1 → I (pre, mm) X → w.heap.size + 2 ≤ Bx → EBox X Bx x → YGF l (w.heap.size + 2) (O (pre, mm)) pre x X → body.wpIn (Fence.wide.inRound l') n Tryz.prog (postF q I (fun c st X => c = .exit id ∧ Ie st X) O xbE (O (pre, mm)) pre x X) { tmps := (A.setIfInBounds p (.agg x.cells)).setIfInBounds sl (.pointer (some ⟨Bx, 0, none⟩)), defers := [] } X)
  (hend : ∀ (D : Nat) (xs : List EntD) (mm : M) (X : World), D = w.heap.size → ((xs.length = l.length ∧ l.length ≤ q) ∧ I (xs, mm) X ∨ (xs.length = q + 1 ∧ q < l.length) ∧ Ie (xs, mm) X) → X.heap[D]? = some (.deferred (some [])) → Q .normal { tmps := A, defers := { target := .collected D, args := #[] } :: ds } X) :
  (Code.rangeFunc o #[p] assign body).wpIn Fence.wide n Tryz.prog (Exit.inBlock id Q) { tmps := A, defers := ds } w := by
 have hgl : g < w.heap.size := (Array.getElem?_eq_some_iff.1 hk.box).1
 refine range_fb hg (enters_of Tryz.func73 (by kernel_rfl) rfl) (all_seqF (q := q) hL hk hc) (fun _ => rfl) I Ie O m0 (fun k h => by rcases h with h | h <;> omega) hIs (fun st X k h ho => ⟨(hO st X k h ho).1, fun e => by rcases e with e | e; exact (hO st X k h ho).2.1.1 e; exact (hO st X k h ho).2.1.2 e, (hO st X k h ho).2.2⟩) hI hIe hOe h0 (fun C C' pre x X h k => k.sub h) (fun C pre x X k h hx => (h.xb hx).1)
  (fun pre mm x a' X => ∃ Bx, w.heap.size + 2 ≤ Bx ∧ EBox X Bx x ∧ YGF l (w.heap.size + 2) (O (pre, mm)) pre x X ∧ a' = { tmps := (A.setIfInBounds p (.agg x.cells)).setIfInBounds sl (.pointer (some ⟨Bx, 0, none⟩)), defers := [] })
  (fun pre mm x a' X o o' ho hc ⟨Bx, k0, k1, k2, k3⟩ => ⟨Bx, k0, k1.putN o' ho hc, k2.put (by omega) ho hc o', k3⟩) ?_ ?_ hend
 ·intro l' pre mm x Z K hi hs hgd hK
  have h := hassign l' x Z K hgd.1.2.1 fun Z' bz bx => hK _ _ bz ⟨Z.heap.size, hs, bx, hgd.later bz, rfl⟩
  simpa using h
 ·rintro l' pre mm x a' X hl hr hi ⟨Bx, k0, k1, k2, rfl⟩
  exact hbody l' pre mm x Bx X hr hl hi k0 k1 k2
theorem range_en {M : Type} {id q p sl n g r b ne ce np cp B0 gc l0 : Nat} {r0 : Loop} {E P : List Nat} {l : List (List Nat × List Nat)} {o : Operand} {assign body : Code} {Q : Exit → Act → World → Prop} {A : Array Value} {ds : List Deferred} {w : World} (hl0 : w.heap[l0]? = some (.loop r0))
  (hg : ({ tmps := A, defers := ds } : Act).eval o = .func (.func 73) #[] #[.pointer (some ⟨gc, 0, none⟩)])
  (hL : Blad r l E P) (hk : Lk w B0 g r l.length b ne ce E P np cp) (hc : Cell1B w gc (.pointer (some ⟨g, 0, none⟩)) 58) (hbl : b < w.heap.size)
  (I Ie : List EntD × M → World → Prop) (O : List EntD × M → Nat → Prop) (m0 : M)
  (hIs : ∀ st X, I st X → w.heap.size ≤ X.heap.size) (hO : ∀ st X k, I st X → O st k → k < X.heap.size ∧ (k ≠ g ∧ k ≠ b) ∧ k ≠ w.heap.size) (hI : StF w.heap.size I O) (hIe : StF w.heap.size Ie O) (hOe : ∀ st X k, Ie st X → O st k → k < X.heap.size ∧ k ≠ w.heap.size) (h0 : I ([], m0) w)
  (hassign : ∀ (l' : Nat) (x : EntD) (Z : World) (K : Act → World → Prop), EntD.Ok Z x → (∀ Z', Below Z.heap.size Z Z' → EBox Z' Z.heap.size x → K { tmps := (A.setIfInBounds p (.agg x.cells)).setIfInBounds sl (.pointer (some ⟨Z.heap.size, 0, none⟩)), defers := [] } Z') → assign.wpIn (Fence.wide.inRound l') n Tryz.prog (Exit.then K (fun _ _ _ => False)) { tmps := A.setIfInBounds p (.agg x.cells), defers := [] } Z)
  (hbody : ∀ (l' : Nat) (pre : List EntD) (mm : M) (x : EntD) (Bx : Nat) (X : World), (∃ rr, X.heap[l']? = some (.loop rr)) → l' = w.heap.size → I (pre, mm) X → w.heap.size + 1 ≤ Bx → EBox X Bx x → YGF l (w.heap.size + 2) (O (pre, mm)) pre x X → body.wpIn (Fence.wide.inRound l') n Tryz.prog (postF q I (fun c st X => c = .exit id ∧ Ie st X) O xbE (O (pre, mm)) pre x X) { tmps := (A.setIfInBounds p (.agg x.cells)).setIfInBounds sl (.pointer (some ⟨Bx, 0, none⟩)), defers := [] } X)
  (hend : ∀ (xs : List EntD) (mm : M) (X : World), ((xs.length = l.length ∧ l.length ≤ q) ∧ I (xs, mm) X ∨ (xs.length = q + 1 ∧ q < l.length) ∧ Ie (xs, mm) X) → Q .normal { tmps := A, defers := ds } X) :
  (Code.rangeFunc o #[p] assign body).wpIn (Fence.wide.inRound l0) n Tryz.prog (Exit.inBlock id Q) { tmps := A, defers := ds } w := by
 have hgl : g < w.heap.size := (Array.getElem?_eq_some_iff.1 hk.box).1
 refine range_fnb hl0 hg (enters_of Tryz.func73 (by kernel_rfl) rfl) (all_seqF (q := q) hL hk hc) (fun _ => rfl) I Ie O m0 (fun k h => by rcases h with h | h <;> omega) hIs (fun st X k h ho => ⟨(hO st X k h ho).1, fun e => by rcases e with e | e; exact (hO st X k h ho).2.1.1 e; exact (hO st X k h ho).2.1.2 e, (hO st X k h ho).2.2⟩) hI hIe hOe h0 (fun C C' pre x X h k => k.sub h) (fun C pre x X k h hx => by have := (h.xb hx).1; omega)
  (fun pre mm x a' X => ∃ Bx, w.heap.size + 1 ≤ Bx ∧ EBox X Bx x ∧ YGF l (w.heap.size + 2) (O (pre, mm)) pre x X ∧ a' = { tmps := (A.setIfInBounds p (.agg x.cells)).setIfInBounds sl (.pointer (some ⟨Bx, 0, none⟩)), defers := [] })
  (fun pre mm x a' X o o' ho hc ⟨Bx, k0, k1, k2, k3⟩ => ⟨Bx, k0, k1.putN o' ho hc, k2.put (by omega) ho hc o', k3⟩) ?_ ?_ hend
 ·intro l' pre mm x Z K hi hs hgd hK
  have h := hassign l' x Z K hgd.1.2.1 fun Z' bz bx => hK _ _ bz ⟨Z.heap.size, hs, bx, hgd.later bz, rfl⟩
  simpa using h
 ·rintro l' pre mm x a' X hl hr hi ⟨Bx, k0, k1, k2, rfl⟩
  exact hbody l' pre mm x Bx X hr hl hi k0 k1 k2
end Go.Proofs.YtchebhafabhabaaGreatDoor

namespace Go.Proofs.YtchebhafabhabaaGreatDoor
open Go.RowKit Go.Shelf
set_option linter.unusedVariables false

theorem seg_app (E : List Nat) {a b c : Nat} (h1 : a ≤ b) (h2 : b ≤ c) : (E.take b).drop a ++ (E.take c).drop b = (E.take c).drop a := by
 rw [List.drop_take, List.drop_take, List.drop_take, show c - a = (b - a) + (c - b) by omega, List.take_add, List.drop_drop, show a + (b - a) = b by omega]
theorem seg_len (E : List Nat) (a n : Nat) : (E.drop a).take n = (E.take (a + n)).drop a := by
 rw [List.drop_take, show a + n - a = n by omega]
theorem record_back {E : List Nat} (hb : Bys E) {p sh : Nat} {r v : Nat × Nat} (hp : p ≤ E.length) (h : recordOf E p = some (sh, r, v)) :
  recL sh ((E.drop r.1).take r.2) ((E.drop v.1).take v.2) = (E.take (v.1 + v.2)).drop p ∧ p < v.1 + v.2 ∧ v.1 + v.2 ≤ E.length := by
 unfold recordOf at h
 split at h
 ·rename_i hc
  have e0 : uintR E p = ((uintR E p).1, (uintR E p).2.1, 0) := Prod.ext rfl (Prod.ext rfl hc.1)
  have o0 := uintR_ok e0 hp
  have b0 := uint_back hb e0
  split at h
  ·cases h
  ·rename_i r' hr
   split at h
   ·cases h
   ·rename_i v' hv
    simp only [Option.some.injEq, Prod.mk.injEq] at h
    obtain ⟨rfl, rfl, rfl⟩ := h
    have k1 := pieceOf_ok (s := r'.1) (m := r'.2) hr o0.2.1
    have k2 := pieceOf_ok (s := v'.1) (m := v'.2) hv k1.2
    have f1 : ∀ {k : Nat} {z : Nat × Nat}, pieceOf E k = some z → uintR E k = (z.2, z.1, 0) := by
     intro k z hz
     unfold pieceOf at hz
     split at hz
     ·rename_i hq
      simp only [Option.some.injEq] at hz
      rw [← hz]
      exact Prod.ext rfl (Prod.ext rfl hq.1)
     ·cases hz
    have b1 := uint_back hb (f1 hr)
    have b2 := uint_back hb (f1 hv)
    have l1 : ((E.drop r'.1).take r'.2).length = r'.2 := by rw [List.length_take, List.length_drop]; omega
    have l2 : ((E.drop v'.1).take v'.2).length = v'.2 := by rw [List.length_take, List.length_drop]; omega
    refine ⟨?_, by omega, k2.2⟩
    unfold recL
    rw [l1, l2, b0, b1, b2, seg_len E r'.1, seg_len E v'.1, seg_app E (show r'.1 + r'.2 ≤ v'.1 by omega) (show v'.1 ≤ v'.1 + v'.2 by omega), seg_app E (show r'.1 ≤ r'.1 + r'.2 by omega) (show r'.1 + r'.2 ≤ v'.1 + v'.2 by omega), seg_app E (show (uintR E p).2.1 ≤ r'.1 by omega) (show r'.1 ≤ v'.1 + v'.2 by omega), seg_app E (show p ≤ (uintR E p).2.1 by omega) (show (uintR E p).2.1 ≤ v'.1 + v'.2 by omega)]
 ·cases h
theorem getD_lt {P : List Nat} (hb : Bys P) (i : Nat) : P.getD i 0 < 256 := by
 rw [List.getD_eq_getElem?_getD]
 cases h : P[i]? with
 | none => simp
 | some x => simpa using hb x (List.mem_of_getElem? h)
theorem word_back {P : List Nat} (hb : Bys P) {i : Nat} (hi : i * 4 + 4 ≤ P.length) : be4 (wordAt P i) = (P.take (i * 4 + 4)).drop (i * 4) := by
 unfold wordAt
 rw [be4_rdle _ _ _ _ (getD_lt hb _) (getD_lt hb _) (getD_lt hb _) (getD_lt hb _), ← seg_len, four (by rw [List.length_drop]; omega)]
 simp [List.getD_eq_getElem?_getD, List.getElem?_drop]
theorem sound_inv {r : Nat} {E P : List Nat} (hr : 1 ≤ r) (hbE : Bys E) (hbP : Bys P) : ∀ (f : Nat) (s : Bs) (p : Nat) (st : List Nat), s.es = E.take s.es.length → s.es.length ≤ E.length → s.ps = P.take s.ps.length → s.ps.length = (s.n + r - 1) / r * 4 → (∀ j, j < s.n + f → j / r * 4 + 4 ≤ P.length) →
  walkS E (SdA r P) f s.n s.es.length s.la s.la = (p, true, st) → ∃ l, l.length = f ∧ (∀ kv ∈ l, okIt kv.1 kv.2) ∧ Up s.la l ∧ (foldB r s l).es = E.take p ∧ (foldB r s l).es.length = p ∧ (foldB r s l).ps = P.take (foldB r s l).ps.length
 | 0, s, p, st, he, hel, hp, hpl, hN, h => by
  simp only [walkS, Prod.mk.injEq] at h
  obtain ⟨rfl, -, -⟩ := h
  exact ⟨[], rfl, (fun kv hk => by cases hk), trivial, he, rfl, hp⟩
 | f + 1, s, p, st, he, hel, hp, hpl, hN, h => by
  simp only [walkS] at h
  split at h
  ·simp at h
  ·rename_i sh rr v hrec
   obtain ⟨b1, b2, b3⟩ := record_back hbE hel hrec
   split at h
   ·simp at h
   ·rename_i hsh
    split at h
    ·rename_i hfit
     simp only [SdA] at hfit h
     obtain ⟨hord, hok, hf1, hf2⟩ := (fitB_iff ..).1 hfit
     simp only at hord hok hf1 hf2
     obtain ⟨x, hx⟩ : ∃ x, x = (E.drop rr.1).take rr.2 := ⟨_, rfl⟩
     obtain ⟨val, hval⟩ : ∃ val, val = (E.drop v.1).take v.2 := ⟨_, rfl⟩
     simp only [← hx, ← hval] at b1 hord hok hf2 h
     obtain ⟨key, hkey⟩ : ∃ key, key = s.la.take sh ++ x := ⟨_, rfl⟩
     simp only [← hkey] at hord hok hf2 h
     have hlt : (s.la.take sh).length = sh := by rw [List.length_take]; omega
     have hso : shOf r s key = sh := by
      unfold shOf
      split
      ·rename_i h0; exact ((hf1 h0).1).symm
      ·rename_i h0; exact (hf2 h0).symm
     have hdk : key.drop sh = x := by rw [hkey, List.drop_append_of_le_length (by omega), List.drop_of_length_le (by omega)]; rfl
     have hes : (addB r s key val).es = E.take (v.1 + v.2) := by
      simp only [addB, esOf]
      rw [hso, hdk, b1]
      have := seg_app E (a := 0) (b := s.es.length) (c := v.1 + v.2) (by omega) (by omega)
      simp only [List.drop_zero] at this
      rw [← he] at this
      exact this
     have hesl : (addB r s key val).es.length = v.1 + v.2 := by rw [hes, List.length_take]; omega
     have hps := ps_next (s := s) key val hr hpl
     have hpp : (addB r s key val).ps = P.take (addB r s key val).ps.length := by
      simp only [addB, psOf]
      split
      ·rename_i h0
       have hq := (ceil_now (n := s.n) hr).1 h0
       rw [hq] at hpl
       have hw := (hf1 h0).2
       have hwb := word_back hbP (hN s.n (by omega))
       rw [hw]
       have hle := hN s.n (by omega)
       have : (s.ps ++ be4 (wordAt P (s.n / r))).length = s.n / r * 4 + 4 := by rw [List.length_append, hpl]; simp [be4]
       rw [this, hwb]
       have hs := seg_app P (a := 0) (b := s.n / r * 4) (c := s.n / r * 4 + 4) (by omega) (by omega)
       simp only [List.drop_zero] at hs
       rw [hpl] at hp
       rw [← hp] at hs
       exact hs
      ·exact hp
     have ih := sound_inv hr hbE hbP f (addB r s key val) p st (by rw [hesl]; exact hes) (by omega) hpp hps (fun j hj => hN j (by simp only [addB] at hj; omega))
     rw [hesl] at ih
     have hn : (addB r s key val).n = s.n + 1 := rfl
     have hl : (addB r s key val).la = key := rfl
     rw [hn, hl] at ih
     obtain ⟨l, q1, q2, q3, q4, q5, q6⟩ := ih h
     refine ⟨(key, val) :: l, by simp [q1], ?_, ⟨hord, q3⟩, q4, q5, q6⟩
     intro kv hkv
     rcases List.mem_cons.1 hkv with rfl | hkv
     ·exact hok
     ·exact q2 kv hkv
    ·simp at h
theorem sound_blad {r n : Nat} {E P : List Nat} (hr : 1 ≤ r) (h16 : r ≤ 16) (hbE : Bys E) (hbP : Bys P) (hn : n ≠ 0) (hPl : P.length = (n + r - 1) / r * 4) (hPN : ∀ k, k < n → k / r * 4 + 4 ≤ P.length) (hsz : E.length + P.length + 9 ≤ 131072) (h : soundB r n E P = true) : ∃ l, l.length = n ∧ Blad r l E P := by
 unfold soundB at h
 obtain ⟨res, hres⟩ : ∃ res, res = walkS E (SdA r P) n 0 0 [] [] := ⟨_, rfl⟩
 rw [← hres] at h
 obtain ⟨p, all, st⟩ := res
 simp only [Bool.and_eq_true, decide_eq_true_eq] at h
 obtain ⟨rfl, rfl⟩ := h
 obtain ⟨l, q1, q2, q3, q4, q5, q6⟩ := sound_inv (r := r) (E := E) (P := P) hr hbE hbP n Bs.zero E.length st (by simp [Bs.zero]) (Nat.zero_le _) (by simp [Bs.zero]) (zero_ps hr) (fun j hj => hPN j (by simpa [Bs.zero] using hj)) hres.symm
 refine ⟨l, q1, hr, h16, ?_, ?_, q2, q3, ?_, hsz⟩
 ·rw [q4, List.take_length]
 ·have := ps_fold hr l Bs.zero (zero_ps hr)
  rw [foldB_n] at this
  have hl : (foldB r Bs.zero l).ps.length = P.length := by rw [this, hPl, q1]; simp [Bs.zero]
  rw [hl, List.take_length] at q6
  exact q6.symm
 ·intro h0
  rw [h0] at q1
  exact hn q1.symm
theorem opE_blad {bs : List Nat} (hb : Bys bs) (h : opE bs = 0) : ∃ l, Blad (rstOf bs) l (entsOf bs) (placesOf5 bs) ∧ l.length = cntOf bs ∧ bs = blockL (entsOf bs) (placesOf5 bs) l.length (rstOf bs) := by
 unfold opE at h
 split at h
 ·cases h
 ·rename_i h1
  split at h
  ·cases h
  ·rename_i h9
   split at h
   ·cases h
   ·rename_i hsum
    split at h
    ·rename_i hs
     obtain ⟨hsp, hso⟩ := hs
     obtain ⟨p1, p2⟩ := spOk_ps (by omega) hsp
     obtain ⟨c0, ⟨r1, r16⟩, hfit⟩ := hsp
     have hLn : ∃ m, bs.length = m + 9 := ⟨bs.length - 9, by omega⟩
     obtain ⟨m, hm⟩ := hLn
     have hpls : plsOf bs ≤ m := by unfold plsOf; omega
     have hbE : Bys (entsOf bs) := fun x hx => hb x (List.mem_of_mem_take hx)
     have hbP : Bys (placesOf5 bs) := fun x hx => hb x (List.mem_of_mem_take (List.mem_of_mem_drop hx))
     have hEl : (entsOf bs).length = plsOf bs := by unfold entsOf; rw [List.length_take]; omega
     have hPl : (placesOf5 bs).length = m - plsOf bs := by unfold placesOf5; rw [List.length_drop, List.length_take, hm]; omega
     obtain ⟨l, q1, q2⟩ := sound_blad r1 r16 hbE hbP c0 (by rw [p1]; unfold nrsOf; omega) p2 (by omega) hso
     refine ⟨l, q2, q1, ?_⟩
     have hEP : entsOf bs ++ placesOf5 bs = bs.take m := by
      have := seg_app bs (a := 0) (b := plsOf bs) (c := m) (by omega) hpls
      simp only [List.drop_zero] at this
      unfold entsOf placesOf5
      rw [hm, show m + 9 - 9 = m by omega]
      exact this
     have hct : be4 (cntOf bs) = (bs.take (m + 4)).drop m := by
      unfold cntOf
      rw [hm, show m + 9 - 9 = m by omega, be4_rdle _ _ _ _ (getD_lt hb _) (getD_lt hb _) (getD_lt hb _) (getD_lt hb _), ← seg_len, four (by rw [List.length_drop]; omega)]
      simp [List.getD_eq_getElem?_getD, List.getElem?_drop]
     have hrt : [rstOf bs] = (bs.take (m + 4 + 1)).drop (m + 4) := by
      unfold rstOf
      rw [hm, show m + 9 - 9 + 4 = m + 4 by omega, ← seg_len, List.drop_eq_getElem_cons (show m + 4 < bs.length by omega)]
      simp only [List.getD_eq_getElem?_getD, List.getElem?_eq_getElem (show m + 4 < bs.length by omega), Option.getD_some, List.take_succ_cons, List.take_zero]
     have hbody : bodyL (entsOf bs) (placesOf5 bs) (cntOf bs) (rstOf bs) = bs.take (m + 5) := by
      unfold bodyL
      have s1 := seg_app bs (a := 0) (b := m) (c := m + 4) (by omega) (by omega)
      have s2 := seg_app bs (a := 0) (b := m + 4) (c := m + 4 + 1) (by omega) (by omega)
      simp only [List.drop_zero] at s1 s2
      rw [hEP, hct, s1, hrt, s2]
     have hle : le4 (sum4 bs) = bs.drop (m + 5) := by
      unfold sum4
      rw [hm, show m + 9 - 4 = m + 5 by omega, le4_rdle _ _ _ _ (getD_lt hb _) (getD_lt hb _) (getD_lt hb _) (getD_lt hb _)]
      have hd : (bs.drop (m + 5)).length = 4 := by rw [List.length_drop]; omega
      have hf := four (l := bs.drop (m + 5)) (by omega)
      rw [List.take_of_length_le (by omega)] at hf
      rw [hf]
      simp [List.getD_eq_getElem?_getD, List.getElem?_drop]
     have hsm : sum4 bs = sumL (bs.take (m + 5)) := by
      have := Decidable.not_not.1 hsum
      rw [hm, show m + 9 - 4 = m + 5 by omega] at this
      exact this
     unfold blockL
     rw [q1, hbody, ← hsm, hle, List.take_append_drop]
    ·cases h
end Go.Proofs.YtchebhafabhabaaGreatDoor

namespace Go.Proofs.YtchebhafabhabaaGreatDoor
open Go.RowKit
set_option linter.unusedVariables false

def adB (a : Option Addr) (k : Nat) : Prop := ∃ ad, a = some ad ∧ ad.block = k
def EntD.adr (D : EntD) (k : Nat) : Prop := ∃ v, (v = D.vr ∨ v = D.vq ∨ v = D.vv) ∧ ∃ ad n c, v = .slice (some ad) n c ∧ ad.block = k
theorem Rd.fbV {w w' : World} {X : Nat → Prop} {v : Value} {bs : List Nat} (h : Rd w v bs) (f : Fb w w' X) (hx : ∀ ad n c, v = .slice (some ad) n c → ¬ X ad.block) : Rd w' v bs := by
 obtain ⟨h1, a, cap, rfl, h3, h4, h5, h6, h7⟩ := h
 refine ⟨h1, a, cap, rfl, h3, h4, h5, h6, ?_⟩
 rcases h7 with h7 | ⟨b, off, rfl, hc⟩
 ·exact .inl h7
 ·refine .inr ⟨b, off, rfl, fun i hi => ?_⟩
  have hb := World.block_lt_of_cell? _ _ (hc i hi)
  have e := f.block b hb (hx _ _ _ rfl)
  rw [← hc i hi]
  unfold World.cell?
  rw [e]
theorem EntD.Ok.fbV {w w' : World} {X : Nat → Prop} {D : EntD} (h : EntD.Ok w D) (f : Fb w w' X) (hx : ∀ k, D.adr k → ¬ X k) : EntD.Ok w' D := ⟨h.1.fbV f (fun ad n c e => hx _ ⟨_, .inl rfl, ad, n, c, e, rfl⟩), h.2.1.fbV f (fun ad n c e => hx _ ⟨_, .inr (.inl rfl), ad, n, c, e, rfl⟩), h.2.2.fbV f (fun ad n c e => hx _ ⟨_, .inr (.inr rfl), ad, n, c, e, rfl⟩)⟩
theorem RdL5.fbV {w w' : World} {X : Nat → Prop} {a : Option Addr} {c : Nat} {l : List EntD} (h : RdL5 w a c l) (f : Fb w w' X) (ha : ∀ k, adB a k → ¬ X k) (hd : ∀ D ∈ l, ∀ k, D.adr k → ¬ X k) : RdL5 w' a c l := by
 refine ⟨h.cap, ?_, fun x hx => (h.ok x hx).fbV f (hd x hx), h.nn⟩
 rcases h.at_ with h1 | ⟨b, off, rfl, hc⟩
 ·exact .inl h1
 ·refine .inr ⟨b, off, rfl, fun i x hi j u hj => ?_⟩
  have h0 := hc i x hi j u hj
  have hb := World.block_lt_of_cell? _ _ h0
  have e := f.block b hb (ha b ⟨_, rfl, rfl⟩)
  rw [← h0]
  unfold World.cell?
  rw [e]
end Go.Proofs.YtchebhafabhabaaGreatDoor

namespace Go.Proofs.YtchebhafabhabaaGreatDoor
open Go.RowKit Go.Shelf
set_option linter.unusedVariables false

theorem piece_bytes {E : List Nat} {k s m : Nat} (h : pieceOf E k = some (s, m)) (hk : k ≤ E.length) : bytesR E k E.length = ((E.drop s).take m, s + m, 0) := by
 have ok := pieceOf_ok h hk
 unfold pieceOf at h
 split at h
 ·rename_i hc
  simp only [Option.some.injEq, Prod.mk.injEq] at h
  obtain ⟨h1, h2⟩ := h
  unfold bytesR
  rw [if_neg (by omega), if_neg (by omega), if_neg (by omega), h1, h2]
 ·cases h
theorem bytes_piece {E L : List Nat} {k P : Nat} (h : bytesR E k E.length = (L, P, 0)) (hk : k ≤ E.length) : ∃ s m, pieceOf E k = some (s, m) ∧ L = (E.drop s).take m ∧ P = s + m := by
 unfold bytesR at h
 split at h
 ·rename_i h0
  simp only [Prod.mk.injEq] at h
  exact absurd h.2.2 h0
 ·split at h
  ·simp at h
  ·split at h
   ·simp at h
   ·rename_i h0 h1 h2
    simp only [Prod.mk.injEq, and_true] at h
    refine ⟨(uintR E k).2.1, (uintR E k).1, ?_, h.1.symm, h.2.symm⟩
    unfold pieceOf
    rw [if_pos ⟨by omega, by omega⟩]
def RfR (E : List Nat) (p : Nat) (last key val : List Nat) (p' : Nat) : Prop :=
 ∃ sh r v, recordOf E p = some (sh, r, v) ∧ sh ≤ last.length ∧ key = last.take sh ++ (E.drop r.1).take r.2 ∧ val = (E.drop v.1).take v.2 ∧ p' = v.1 + v.2 ∧ IsKey key
theorem rfr_of {E last L1 L2 : List Nat} {p V P p2 p3 : Nat} (hp : p ≤ E.length) (hla : last.length ≤ E.length) (h0 : uintR E p = (V, P, 0)) (hV : V ≤ last.length) (h1 : bytesR E P E.length = (L1, p2, 0)) (h2 : bytesR E p2 E.length = (L2, p3, 0)) (hk : IsKey (last.take V ++ L1)) : RfR E p last (last.take V ++ L1) L2 p3 := by
 have o0 := uintR_ok h0 hp
 obtain ⟨s1, m1, e1, rfl, rfl⟩ := bytes_piece h1 o0.2.1
 have o1 := pieceOf_ok e1 o0.2.1
 obtain ⟨s2, m2, e2, rfl, rfl⟩ := bytes_piece h2 o1.2
 refine ⟨V, (s1, m1), (s2, m2), ?_, hV, rfl, rfl, rfl, hk⟩
 unfold recordOf
 rw [h0]
 simp only
 rw [if_pos ⟨trivial, by omega⟩, e1]
 simp only
 rw [e2]
theorem rfr_un {E last key val : List Nat} {p p' : Nat} (hp : p ≤ E.length) (h : RfR E p last key val p') : ∃ V P L1 p2, uintR E p = (V, P, 0) ∧ V ≤ last.length ∧ bytesR E P E.length = (L1, p2, 0) ∧ bytesR E p2 E.length = (val, p', 0) ∧ key = last.take V ++ L1 ∧ IsKey key := by
 obtain ⟨sh, r, v, h1, h2, h3, h4, h5, h6⟩ := h
 unfold recordOf at h1
 split at h1
 ·rename_i hc
  have e0 : uintR E p = ((uintR E p).1, (uintR E p).2.1, 0) := Prod.ext rfl (Prod.ext rfl hc.1)
  have o0 := uintR_ok e0 hp
  split at h1
  ·cases h1
  ·rename_i r' hr
   split at h1
   ·cases h1
   ·rename_i v' hv
    simp only [Option.some.injEq, Prod.mk.injEq] at h1
    obtain ⟨rfl, rfl, rfl⟩ := h1
    have k1 := pieceOf_ok (s := r'.1) (m := r'.2) hr o0.2.1
    have k2 := piece_bytes (s := r'.1) (m := r'.2) hr o0.2.1
    have k3 := piece_bytes (s := v'.1) (m := v'.2) hv k1.2
    exact ⟨_, _, _, _, e0, h2, k2, by rw [k3, h4, h5], h3, h6⟩
 ·cases h1
theorem rfr_le {E last key val : List Nat} {p p' : Nat} (hp : p ≤ E.length) (hla : last.length ≤ p) (h : RfR E p last key val p') : p < p' ∧ p' ≤ E.length ∧ key.length ≤ p' := by
 obtain ⟨sh, r, v, h1, h2, h3, h4, h5, h6⟩ := h
 have := recordOf_ok h1 hp
 refine ⟨by omega, by omega, ?_⟩
 rw [h3, List.length_append, List.length_take, List.length_take, List.length_drop]
 omega
theorem rfr_one {E last key val key' val' : List Nat} {p p' q : Nat} (h : RfR E p last key val p') (k : RfR E p last key' val' q) : key = key' ∧ val = val' ∧ p' = q := by
 obtain ⟨sh, r, v, h1, h2, h3, h4, h5, h6⟩ := h
 obtain ⟨sh', r', v', k1, k2, k3, k4, k5, k6⟩ := k
 rw [h1] at k1
 simp only [Option.some.injEq, Prod.mk.injEq] at k1
 obtain ⟨rfl, rfl, rfl⟩ := k1
 exact ⟨h3.trans k3.symm, h4.trans k4.symm, h5.trans k5.symm⟩
theorem bytesR_bys {E L : List Nat} {k m P : Nat} (hb : Bys E) (h : bytesR E k m = (L, P, 0)) : Bys L := by
 unfold bytesR at h
 split at h
 ·rename_i h0
  simp only [Prod.mk.injEq] at h
  exact absurd h.2.2 h0
 ·split at h
  ·simp at h
  ·split at h
   ·simp at h
   ·simp only [Prod.mk.injEq] at h
    intro x hx
    rw [← h.1] at hx
    exact hb x (List.mem_of_mem_drop (List.mem_of_mem_take hx))
structure OwnD (w : World) (B : Nat) (D : EntD) : Prop where
 r : Own w B D.vr D.row.length D.row
 q : Own w B D.vq D.qual.length D.qual
 v : Own w B D.vv D.val.length D.val
theorem OwnD.later {w w' : World} {B : Nat} {D : EntD} (h : OwnD w B D) (b : Below w.heap.size w w') : OwnD w' B D := ⟨h.r.later b, h.q.later b, h.v.later b⟩
theorem OwnD.mono {w : World} {B B' : Nat} {D : EntD} (h : OwnD w B D) (k : B' ≤ B) : OwnD w B' D := ⟨h.r.mono k, h.q.mono k, h.v.mono k⟩
def REp (w : World) (E : List Nat) (p : Nat) (last : List Nat) (x : Ending) (w' : World) : Prop :=
 Below w.heap.size w w' ∧ (((∀ key val p', ¬ RfR E p last key val p') ∧ x = .returned (.tuple #[.agg #[.slice none 0 0, .int .i64 0, .slice none 0 0, .int .i64 0, .int .i64 0, .int .i64 0, .slice none 0 0], .slice none 0 0, .int .i64 0, .bool false])) ∨
  ∃ (D : EntD) (p' : Nat) (a : Option Addr) (m c : Nat), RfR E p last (keyL D) D.val p' ∧ (checkS D = 0 ↔ okIt (keyL D) D.val) ∧ x = .returned (.tuple #[.agg D.cells, .slice a m c, .int .i64 (p' : Int), .bool true]) ∧ Own w' w.heap.size (.slice a m c) m (keyL D) ∧ Bys (keyL D) ∧ EntD.Ok w' D ∧ OwnD w' w.heap.size D)
end Go.Proofs.YtchebhafabhabaaGreatDoor

namespace Go.Proofs.YtchebhafabhabaaGreatDoor
open Go.RowKit
set_option linter.unusedVariables false

set_option maxRecDepth 100000 in
theorem ref1Same_any {a b : Value} {xs ys : List Nat} {w : World} (ha : Rd w a xs) (hb : Rd w b ys) :
  Calls Tryz.prog 65 #[a, b] w fun e w' => e = .returned (.bool (decide (xs = ys))) ∧ w' = w := by
 have h1 := conv_str ha
 have h2 := conv_str hb
 go_enter Tryz.func65, Tryz.ntmps65
 go_wp2
 go_ret
 exact ⟨by rw [← beq_str ha.1 hb.1]; rfl, rfl⟩
theorem refRO_at {v : Value} {bs L : List Nat} {w : World} {P E : Nat} (hr : Rd w v bs) (z : Int) (k : Nat) (hz : z = (k : Int)) (hk : k ≤ bs.length) (h47 : bs.length ≤ 140737488355328) (q : ordR bs k = (L, P, E)) :
  Calls Tryz.prog 113 #[v, .int .i64 z] w fun e w' => ∃ a m c, e = .returned (.tuple #[.slice a m c, .int .i64 (P : Int), .int .i64 (E : Int)]) ∧ Own w' w.heap.size (.slice a m c) m L ∧ Below w.heap.size w w' := by
 subst hz
 have := refReadOrdered_in hr k hk h47
 rw [q] at this
 exact this
theorem refRF_at {v : Value} {bs : List Nat} {w : World} {V P E : Nat} (hr : Rd w v bs) (z : Int) (k : Nat) (hz : z = (k : Int)) (hk : k ≤ bs.length) (q : fallR bs k = (V, P, E)) :
  Calls Tryz.prog 114 #[v, .int .i64 z] w fun e w' => e = .returned (.tuple #[.int .i64 (V : Int), .int .i64 (P : Int), .int .i64 (E : Int)]) ∧ w' = w := by
 subst hz
 have := refReadFalling_in hr k hk
 rw [q] at this
 exact this
theorem refRF_b {v : Value} {bs : List Nat} {w : World} {V P E : Nat} (hr : Rd w v bs) (z : Int) (k : Nat) (hz : z = (k : Int)) (hk : k ≤ bs.length) (q : fallR bs k = (V, P, E)) :
  Calls Tryz.prog 114 #[v, .int .i64 z] w fun e w' => e = .returned (.tuple #[.int .i64 (V : Int), .int .i64 (P : Int), .int .i64 (E : Int)]) ∧ Below w.heap.size w w' :=
 (refRF_at hr z k hz hk q).mono fun _ _ h => ⟨h.1, by rw [h.2]; exact Below.refl _ _⟩
theorem one_inv {bs : List Nat} {k x P : Nat} (hk : k ≤ bs.length) (h : oneR bs k = (x, P, false)) : k < bs.length ∧ x = bs.getD k 0 ∧ P = k + 1 := by
 unfold oneR at h
 split at h
 ·simp at h
 ·rename_i n
  simp only [Prod.mk.injEq] at h
  exact ⟨by omega, h.1.symm, h.2.1.symm⟩
theorem ord_le {bs row : List Nat} {k p E : Nat} (h : k ≤ bs.length) (q : ordR bs k = (row, p, E)) : p ≤ bs.length := by have := ordR_le bs k h; rw [q] at this; exact this
theorem fall_le {bs : List Nat} {k v p E : Nat} (h : k ≤ bs.length) (q : fallR bs k = (v, p, E)) : p ≤ bs.length := by have := fallR_le bs k h; rw [q] at this; exact this
theorem nat_entry {D : EntD} (hc : checkS D = 0) (hv : D.val = []) (a b c : Value) : checkS ⟨a, ((D.fam.toNat : Nat) : Int), b, ((D.ts.toNat : Nat) : Int), ((D.seq.toNat : Nat) : Int), ((D.kind.toNat : Nat) : Int), c, D.row, D.qual, []⟩ = 0 ∧ keyL ⟨a, ((D.fam.toNat : Nat) : Int), b, ((D.ts.toNat : Nat) : Int), ((D.seq.toNat : Nat) : Int), ((D.kind.toNat : Nat) : Int), c, D.row, D.qual, []⟩ = keyL D := by
 refine ⟨checkS_eq hc hv a b c, ?_⟩
 obtain ⟨_, f, _, _, t, s, k, _⟩ := check_facts hc
 rw [Int.toNat_of_nonneg f.1, Int.toNat_of_nonneg (show 0 ≤ D.ts by omega), Int.toNat_of_nonneg s.1, Int.toNat_of_nonneg (show 0 ≤ D.kind by omega)]
 exact keyL_val D a b c []

theorem parse_plain_facts {bs row qual : List Nat} {p1 p4 p6 p7 E1 E4 E6 E7 ts sq : Nat} (q1 : ordR bs 0 = (row, p1, E1)) (hfm : bs.getD (p1 + 1) 0 ≠ 0) (q4 : ordR bs (p1 + 2) = (qual, p4, E4)) (q6 : fallR bs (p4 + 1) = (ts, p6, E6)) (q7 : fallR bs p6 = (sq, p7, E7)) (a b c : Value) (h : IsKey bs) :
  E1 = 0 ∧ p1 + 2 ≤ bs.length ∧ E4 = 0 ∧ p4 + 1 ≤ bs.length ∧ E6 = 0 ∧ E7 = 0 ∧ p7 + 1 = bs.length ∧ checkS ⟨a, ((bs.getD p1 0 : Nat) : Int), b, (ts : Int), (sq : Int), ((bs.getD p7 0 : Nat) : Int), c, row, qual, []⟩ = 0 ∧ keyL ⟨a, ((bs.getD p1 0 : Nat) : Int), b, (ts : Int), (sq : Int), ((bs.getD p7 0 : Nat) : Int), c, row, qual, []⟩ = bs := by
 obtain ⟨D, hc, hv, hk⟩ := h
 have l1 := ord_le (Nat.zero_le _) q1
 by_cases k5 : D.kind = 5
 ·exfalso
  obtain ⟨u1, u2, u3, u6, u7, r1, r2, r3, r6, r7, r8⟩ := reads_fam hc k5
  rw [hk] at r1 r2 r3
  rw [q1] at r1
  simp only [Prod.mk.injEq] at r1
  obtain ⟨rfl, rfl, rfl⟩ := r1
  obtain ⟨a2, b2, rfl⟩ := one_inv l1 r2
  obtain ⟨a3, b3, rfl⟩ := one_inv (by omega) r3
  exact hfm b3.symm
 ·obtain ⟨u1, u2, u3, u4, u5, u6, u7, r1, r2, r3, r4, r5, r6, r7, r8⟩ := reads_plain hc k5
  rw [hk] at r1 r2 r3 r4 r5 r6 r7 r8
  rw [q1] at r1
  simp only [Prod.mk.injEq] at r1
  obtain ⟨e1, rfl, rfl⟩ := r1
  obtain ⟨a2, b2, rfl⟩ := one_inv l1 r2
  obtain ⟨a3, b3, rfl⟩ := one_inv (by omega) r3
  rw [q4] at r4
  simp only [Prod.mk.injEq] at r4
  obtain ⟨e4, rfl, rfl⟩ := r4
  have l4 := ord_le (by omega) q4
  obtain ⟨a5, b5, rfl⟩ := one_inv l4 r5
  rw [q6] at r6
  simp only [Prod.mk.injEq] at r6
  obtain ⟨e6, rfl, rfl⟩ := r6
  have l6 := fall_le (by omega) q6
  rw [q7] at r7
  simp only [Prod.mk.injEq] at r7
  obtain ⟨e7, rfl, rfl⟩ := r7
  have l7 := fall_le l6 q7
  obtain ⟨a8, b8, e8⟩ := one_inv l7 r8
  have n := nat_entry hc hv a b c
  rw [hk] at n
  rw [← b2, ← b8, e1, e4, e6, e7]
  exact ⟨rfl, by omega, rfl, by omega, rfl, rfl, e8.symm, n.1, n.2⟩
theorem parse_fam_facts {bs row : List Nat} {p1 p6 p7 E1 E6 E7 ts sq : Nat} (q1 : ordR bs 0 = (row, p1, E1)) (hfm : bs.getD (p1 + 1) 0 = 0) (q6 : fallR bs (p1 + 2) = (ts, p6, E6)) (q7 : fallR bs p6 = (sq, p7, E7)) (a b c : Value) (h : IsKey bs) :
  E1 = 0 ∧ p1 + 2 ≤ bs.length ∧ E6 = 0 ∧ E7 = 0 ∧ p7 + 1 = bs.length ∧ checkS ⟨a, ((bs.getD p1 0 : Nat) : Int), b, (ts : Int), (sq : Int), ((bs.getD p7 0 : Nat) : Int), c, row, [], []⟩ = 0 ∧ keyL ⟨a, ((bs.getD p1 0 : Nat) : Int), b, (ts : Int), (sq : Int), ((bs.getD p7 0 : Nat) : Int), c, row, [], []⟩ = bs := by
 obtain ⟨D, hc, hv, hk⟩ := h
 have l1 := ord_le (Nat.zero_le _) q1
 by_cases k5 : D.kind = 5
 ·obtain ⟨u1, u2, u3, u6, u7, r1, r2, r3, r6, r7, r8⟩ := reads_fam hc k5
  rw [hk] at r1 r2 r3 r6 r7 r8
  rw [q1] at r1
  simp only [Prod.mk.injEq] at r1
  obtain ⟨e1, rfl, rfl⟩ := r1
  obtain ⟨a2, b2, rfl⟩ := one_inv l1 r2
  obtain ⟨a3, b3, rfl⟩ := one_inv (by omega) r3
  rw [q6] at r6
  simp only [Prod.mk.injEq] at r6
  obtain ⟨e6, rfl, rfl⟩ := r6
  have l6 := fall_le (by omega) q6
  rw [q7] at r7
  simp only [Prod.mk.injEq] at r7
  obtain ⟨e7, rfl, rfl⟩ := r7
  have l7 := fall_le l6 q7
  obtain ⟨a8, b8, e8⟩ := one_inv l7 r8
  have n := nat_entry hc hv a b c
  rw [hk, (check_facts hc).2.2.2.1 k5] at n
  rw [← b2, ← b8, e1, e6, e7]
  exact ⟨rfl, by omega, rfl, rfl, e8.symm, n.1, n.2⟩
 ·exfalso
  obtain ⟨u1, u2, u3, u4, u5, u6, u7, r1, r2, r3, r4, r5, r6, r7, r8⟩ := reads_plain hc k5
  rw [hk] at r1 r2 r3
  rw [q1] at r1
  simp only [Prod.mk.injEq] at r1
  obtain ⟨e1, rfl, rfl⟩ := r1
  obtain ⟨a2, b2, rfl⟩ := one_inv l1 r2
  obtain ⟨a3, b3, rfl⟩ := one_inv (by omega) r3
  rw [hfm] at b3
  cases b3
end Go.Proofs.YtchebhafabhabaaGreatDoor

namespace Go.Proofs.YtchebhafabhabaaGreatDoor
open Go.RowKit
set_option linter.unusedVariables false

theorem Own.put {w : World} {B g i m : Nat} {u x : Value} {bs : List Nat} (h : Own w B u m bs) (hg : g < B) : Own (w.setCell ⟨g, i, none⟩ x) B u m bs := by
 refine ⟨h.1, h.2.1, ?_⟩
 rcases h.2.2 with h5 | ⟨g3, cap, cur, h5, h6, h7, h8⟩
 ·exact .inl h5
 ·refine .inr ⟨g3, cap, cur, h5, h6, ?_, h8⟩
  rw [Below.heap_setCell w ⟨g, i, none⟩ x g3 (by simp; omega)]
  exact h7
theorem Own.fillo {w : World} {B g m : Nat} {u : Value} {bs : List Nat} {D : EntD} (h : Own w B u m bs) (hg : g < B) : Own (filled w g D) B u m bs :=
 (((((((h.put hg).put hg).put hg).put hg).put hg).put hg).put hg)
theorem three_boxes : (∀ w : World, EBox (((w.alloc (.cells #[.slice none 0 0, .int .i64 0, .slice none 0 0, .int .i64 0, .int .i64 0, .int .i64 0, .slice none 0 0] 40)).alloc (.cells #[.slice none 0 0, .int .i64 0, .slice none 0 0, .int .i64 0, .int .i64 0, .int .i64 0, .slice none 0 0] 40)).alloc (.cells #[.slice none 0 0, .int .i64 0, .slice none 0 0, .int .i64 0, .int .i64 0, .int .i64 0, .slice none 0 0] 40)) (w.heap.size) ⟨.slice none 0 0, 0, .slice none 0 0, 0, 0, 0, .slice none 0 0, [], [], []⟩) ∧ (∀ w : World, EBox (((w.alloc (.cells #[.slice none 0 0, .int .i64 0, .slice none 0 0, .int .i64 0, .int .i64 0, .int .i64 0, .slice none 0 0] 40)).alloc (.cells #[.slice none 0 0, .int .i64 0, .slice none 0 0, .int .i64 0, .int .i64 0, .int .i64 0, .slice none 0 0] 40)).alloc (.cells #[.slice none 0 0, .int .i64 0, .slice none 0 0, .int .i64 0, .int .i64 0, .int .i64 0, .slice none 0 0] 40)) (w.heap.size + 1) ⟨.slice none 0 0, 0, .slice none 0 0, 0, 0, 0, .slice none 0 0, [], [], []⟩) ∧ (∀ w : World, EBox (((w.alloc (.cells #[.slice none 0 0, .int .i64 0, .slice none 0 0, .int .i64 0, .int .i64 0, .int .i64 0, .slice none 0 0] 40)).alloc (.cells #[.slice none 0 0, .int .i64 0, .slice none 0 0, .int .i64 0, .int .i64 0, .int .i64 0, .slice none 0 0] 40)).alloc (.cells #[.slice none 0 0, .int .i64 0, .slice none 0 0, .int .i64 0, .int .i64 0, .int .i64 0, .slice none 0 0] 40)) (w.heap.size + 1 + 1) ⟨.slice none 0 0, 0, .slice none 0 0, 0, 0, 0, .slice none 0 0, [], [], []⟩) := by
 refine ⟨fun w => ?_, fun w => ?_, fun w => ?_⟩
 ·exact (((EBox.new w ⟨.slice none 0 0, 0, .slice none 0 0, 0, 0, 0, .slice none 0 0, [], [], []⟩).later ((Below.refl _ _).alloc (Nat.le_refl _) _)).later ((Below.refl _ _).alloc (Nat.le_refl _) _))
 ·have h := EBox.new (w.alloc (.cells #[.slice none 0 0, .int .i64 0, .slice none 0 0, .int .i64 0, .int .i64 0, .int .i64 0, .slice none 0 0] 40)) ⟨.slice none 0 0, 0, .slice none 0 0, 0, 0, 0, .slice none 0 0, [], [], []⟩
  rw [World.size_alloc] at h
  exact h.later ((Below.refl _ _).alloc (Nat.le_refl _) _)
 ·have h := EBox.new ((w.alloc (.cells #[.slice none 0 0, .int .i64 0, .slice none 0 0, .int .i64 0, .int .i64 0, .int .i64 0, .slice none 0 0] 40)).alloc (.cells #[.slice none 0 0, .int .i64 0, .slice none 0 0, .int .i64 0, .int .i64 0, .int .i64 0, .slice none 0 0] 40)) ⟨.slice none 0 0, 0, .slice none 0 0, 0, 0, 0, .slice none 0 0, [], [], []⟩
  rw [World.size_alloc, World.size_alloc] at h
  exact h


end Go.Proofs.YtchebhafabhabaaGreatDoor
