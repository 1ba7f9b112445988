import Derived.Test.YtpabbnddeklpdaaGreatK07
import Derived.RangeFuncNested
import Derived.RangeFuncBound
import Derived.RangeFuncCalls
import Derived.RangeFuncLeaves
import Derived.Shelf.Abstract
import Derived.Shelf.RegionOpen
import Derived.OwnWalkIn
import Derived.TacticsInMore
import Derived.LoopNIn
import Derived.LoopIn
import Derived.Sort.QuietIn
namespace Go.Proofs.YtpabbnddeklpdaaGreat
open Go.RowKit Go.Shelf
set_option linter.unusedVariables false
attribute [local go_sem] Oper.semAt_some

structure Turn (B : Nat) (w w' : World) : Prop where
 below : Below B w w'
 cells : ∀ (i : Nat) (o : Obj), w.heap[i]? = some o → o.isCells = true → w'.heap[i]? = some o
theorem Turn.trans {B : Nat} {a b c : World} (h : Turn B a b) (k : Turn B b c) : Turn B a c := ⟨h.below.trans k.below, fun i o hi ho => k.cells i o (h.cells i o hi ho) ho⟩
theorem Turn.mono {B B' : Nat} {w w' : World} (h : Turn B w w') (hB : B' ≤ B) : Turn B' w w' := ⟨h.below.mono hB, h.cells⟩
theorem Turn.of {B : Nat} {w w' : World} (h : Below w.heap.size w w') (hB : B ≤ w.heap.size) : Turn B w w' := ⟨h.mono hB, fun i o hi _ => (h.block i (Array.getElem?_eq_some_iff.1 hi).1).trans hi⟩
theorem Turn.grown {B : Nat} {w w' : World} {row : Option Nat} (hg : w.grownBy w' row) (hB : B ≤ w.heap.size) (hr : ∀ r, row = some r → B ≤ r ∧ ∃ o : Obj, w.heap[r]? = some o ∧ o.isCells = false) : Turn B w w' :=
 ⟨(Below.refl B w).grown hg hB (fun k e => (hr k e).1), fun i o hi ho => (hg.block i (Array.getElem?_eq_some_iff.1 hi).1 (fun e => by
  obtain ⟨_, o', h1, h2⟩ := hr i e.symm
  rw [hi] at h1; cases h1; rw [ho] at h2; cases h2)).trans hi⟩
theorem Turn.put {B : Nat} {w : World} {r : Nat} {o : Obj} (o' : Obj) (hB : B ≤ w.heap.size) (hr : B ≤ r) (ho : w.heap[r]? = some o) (hc : o.isCells = false) : Turn B w (w.putObj r o') :=
 Turn.grown (grownBy_putObj' w r o') hB (fun k e => by cases e; exact ⟨hr, o, ho, hc⟩)
structure KpC (G : Nat → Prop) (w w' : World) : Prop where
 size : w.heap.size ≤ w'.heap.size
 cells : ∀ (i : Nat) (o : Obj), w.heap[i]? = some o → o.isCells = true → G i → w'.heap[i]? = some o
theorem KpC.refl (G : Nat → Prop) (w : World) : KpC G w w := ⟨Nat.le_refl _, fun _ _ h _ _ => h⟩
theorem KpC.trans {G : Nat → Prop} {a b c : World} (h : KpC G a b) (k : KpC G b c) : KpC G a c := ⟨Nat.le_trans h.size k.size, fun i o hi ho hg => k.cells i o (h.cells i o hi ho hg) ho hg⟩
theorem Turn.toC {G : Nat → Prop} {B : Nat} {w w' : World} (h : Turn B w w') : KpC G w w' := ⟨h.below.size, fun i o hi ho _ => h.cells i o hi ho⟩
theorem KpC.mono {G G' : Nat → Prop} {w w' : World} (h : KpC G w w') (hg : ∀ i, G' i → G i) : KpC G' w w' := ⟨h.size, fun i o hi ho k => h.cells i o hi ho (hg i k)⟩
theorem KpC.put {G : Nat → Prop} {w : World} {r : Nat} {o : Obj} (o' : Obj) (ho : w.heap[r]? = some o) (hc : o.isCells = false) : KpC G w (w.putObj r o') := ⟨by simp, fun i u hi hu _ => (World.putObj_heap_other (fun e => by subst e; rw [hi] at ho; cases ho; rw [hu] at hc; cases hc)).trans hi⟩
theorem KpC.cell {G : Nat → Prop} {w w' : World} (h : KpC G w w') {a : Addr} {v : Value} (hg : G a.block) (ha : w.cell? a = some v) : w'.cell? a = some v := by
 obtain ⟨o, h1, h2⟩ := cells_of_cell ha
 rw [World.cell?_of_block (w := w) ((h.cells _ o h1 h2 hg).trans h1.symm)]; exact ha
theorem RdG.keptC {G : Nat → Prop} {w w' : World} {v : Value} {bs : List Nat} (h : RdG G w v bs) (hk : KpC G w w') : RdG G w' v bs := by
 obtain ⟨⟨h1, a, cap, rfl, h3, h4, h5, h6, h7⟩, hg⟩ := h
 refine ⟨⟨h1, a, cap, rfl, h3, h4, h5, h6, ?_⟩, fun b off m c e hm => ?_⟩
 ·rcases h7 with h7 | ⟨b, off, rfl, hc⟩
  ·exact .inl h7
  ·by_cases h0 : bs = []
   ·exact .inl h0
   ·exact .inr ⟨b, off, rfl, fun i hi => hk.cell (a := ⟨b, off + i, none⟩) (hg b off _ _ rfl (by omega)).1 (hc i hi)⟩
 ·obtain ⟨h8, cur, fr, h9⟩ := hg b off m c e hm
  exact ⟨h8, cur, fr, hk.cells b _ h9 rfl h8⟩
theorem EOk.keptC {G : Nat → Prop} {w w' : World} {e : EntD} (h : EOk G w e) (hk : KpC G w w') : EOk G w' e := ⟨h.1.keptC hk, h.2.1.keptC hk, h.2.2.keptC hk⟩
theorem IsT.keptC {G : Nat → Prop} {w w' : World} (hk : KpC G w w') : ∀ {p : Option Addr} {T : BT}, IsT G w p T → IsT G w' p T
 | _, .leaf, h => h
 | _, .node _ _ _, ⟨b, pl, pr, hp, hb, hn, he, hl, hr⟩ => ⟨b, pl, pr, hp, hb, hk.cells b _ hn rfl hb, he.keptC hk, hl.keptC hk, hr.keptC hk⟩
theorem Turn.obox {B g : Nat} {w w' : World} {p : Option Addr} (h : Turn B w w') (hb : OBox w g p) : OBox w' g p := h.cells g _ hb rfl

def AbT {β : Type} (B : Nat) (J : β → World → Prop) : Prop := ∀ s w w', B ≤ w.heap.size → J s w → Turn B w w' → J s w'
theorem wide_room (k : Nat) : Fence.wide.room k := fun d h => by cases h
theorem roundIn_anyDepth {m m' : Nat} {P : Program} {l : Nat} {f : FuncId} {tmps : Array Value} {assign body : Code} {w : World} {R : Ending → World → Prop} (h : RoundIn Fence.wide m P l f tmps assign body w R) : RoundIn Fence.wide m' P l f tmps assign body w R := ⟨h.1, fun c cs _ => h.2 c cs (wide_room _)⟩

structure Oth (B : Nat) (w w' : World) : Prop where
 size : w.heap.size ≤ w'.heap.size
 same : ∀ (i : Nat) (o : Obj), B ≤ i → w.heap[i]? = some o → o.isCells = false → w'.heap[i]? = some o
theorem Oth.trans {B : Nat} {a b c : World} (h : Oth B a b) (k : Oth B b c) : Oth B a c := ⟨Nat.le_trans h.size k.size, fun i o hB hi ho => k.same i o hB (h.same i o hB hi ho) ho⟩
theorem Oth.put {B r : Nat} {w : World} (o : Obj) (hr : r < B) : Oth B w (w.putObj r o) := ⟨by simp, fun i u hB hi hu => (World.putObj_heap_other (by omega)).trans hi⟩
theorem Oth.of {B : Nat} {w w' : World} (h : Below w.heap.size w w') : Oth B w w' := ⟨h.size, fun i o _ hi _ => (h.block i (Array.getElem?_eq_some_iff.1 hi).1).trans hi⟩
theorem Oth.keeps {B : Nat} {w w' : World} (h : Oth B w w') : KeepsFrom B w w' := ⟨h.size, h.same⟩
theorem Oth.from {B B' : Nat} {w w' : World} (h : KeepsFrom B w w') (hB : B ≤ B') : Oth B' w w' := ⟨h.size, fun i o k hi ho => h.same i o (Nat.le_trans hB k) hi ho⟩

def SeqW {α : Type} (P : Program) (gf : Nat) (lb : Array Value) (encs : α → Array Value) (Gd : Nat → List α → α → World → Prop) (Kp : Nat → World → World → Prop) (S Sp : List α → Prop) (w : World) : Prop :=
 ∀ (l n : Nat) (J Jx : List α → World → Prop) (W : World), Turn w.heap.size w W → (∀ s X, J s X → W.heap.size ≤ X.heap.size) → AbT W.heap.size J → AbT W.heap.size Jx →
  (∀ m pre x W1, J pre W1 → Gd W.heap.size pre x W1 → YieldAt Fence.wide m P l (encs x) W1 fun e W' => (e = .returned (.bool true) ∧ J (pre ++ [x]) W' ∧ Kp W.heap.size W1 W') ∨ (e = .returned (.bool false) ∧ Jx (pre ++ [x]) W' ∧ Oth W.heap.size W1 W')) →
  J [] W → CallsIn Fence.wide n P gf (#[.func (.yield l) #[] #[]] ++ lb) W fun e W' => (∃ v, e = .returned v) ∧ ((∃ xs, S xs ∧ J xs W') ∨ (∃ pre, Sp pre ∧ Jx pre W'))

theorem range_wide {α : Type} {P : Program} {g : Operand} {ps : Array Tmp} {assign body : Code} {Q : Exit → Act → World → Prop} {a : Act} {w : World} {n : Nat} {gf : Nat} {lb : Array Value}
  (hg : a.eval g = .func (.func gf) #[] lb) (eg : ∀ args w, (callFunc gf args).run P w = .ok (.enter gf args) w)
  {encs : α → Array Value} {Gd : Nat → List α → α → World → Prop} {Kp : Nat → World → World → Prop} {S Sp : List α → Prop} (hseq : SeqW P gf lb encs Gd Kp S Sp w)
  (hKt : ∀ {A B C : World}, Kp (w.heap.size + 2) A B → Kp (w.heap.size + 2) B C → Kp (w.heap.size + 2) A C) (hKb : ∀ (W : World) (o o' : Obj), W.heap[w.heap.size + 1]? = some o → o.isCells = false → Kp (w.heap.size + 2) W (W.putObj (w.heap.size + 1) o')) (hps : ∀ x, (encs x).size = ps.size)
  (I : List α → World → Prop) (Ix : Code → List α → World → Prop) (hIs : ∀ s X, I s X → w.heap.size ≤ X.heap.size) (hI : AbT w.heap.size I) (hIx : ∀ c, AbT w.heap.size (Ix c)) (h0 : I [] w)
  (Ax : List α → α → Act → World → Prop) (hAx : ∀ pre x a', AbT w.heap.size (fun (_ : Unit) W => Ax pre x a' W))
  (hassign : ∀ (l : Nat) (pre : List α) (x : α) (W : World) (K : Act → World → Prop), I pre W → w.heap.size + 2 ≤ W.heap.size → Gd (w.heap.size + 2) pre x W → (∀ a' W', KeepsFrom w.heap.size W W' → Kp (w.heap.size + 2) W W' → I pre W' → Ax pre x a' W' → K a' W') →
   assign.wpIn (Fence.wide.inRound l) n P (Exit.then K (fun _ _ _ => False)) { tmps := (ps.zip (encs x)).foldl (fun t (p, v) => t.setIfInBounds p v) a.tmps, defers := [] } W)
  (hbody : ∀ (l : Nat) (pre : List α) (x : α) (a' : Act) (W : World), I pre W → Ax pre x a' W → body.wpIn (Fence.wide.inRound l) n P (ownPostG w.heap.size (Kp (w.heap.size + 2)) I Ix (pre ++ [x]) W) a' W)
  (hdone : ∀ (D : Nat) (xs : List α) (W : World), w.heap.size ≤ D → S xs → I xs W → W.heap[D]? = some (.deferred (some [])) → Q .normal { a with defers := { target := .collected D, args := #[] } :: a.defers } W)
  (hstop : ∀ (D : Nat) (c : Code) (pre : List α) (W : World), w.heap.size ≤ D → Sp pre → Ix c pre W → W.heap[D]? = some (.deferred (some [])) → c.wpIn Fence.wide n P Q { a with defers := { target := .collected D, args := #[] } :: a.defers } W)
  (hIxs : ∀ c s X, Ix c s X → w.heap.size ≤ X.heap.size) :
  (Code.rangeFunc g ps assign body).wpIn Fence.wide n P Q a w := by
 refine wpIn_rangeFunc fun fn hfn => ?_
 let rc : LoopState → Option Code → Obj := fun st pe => .loop { state := st, pending := pe, fn, tmps := a.tmps, params := ps, assign, body, defers := w.heap.size }
 let Bk : Obj → World → Prop := fun r W => W.heap[w.heap.size + 1]? = some r ∧ W.heap[w.heap.size]? = some (.deferred (some []))
 have T0 : Turn w.heap.size w ((w.alloc (.deferred (some []))).alloc (rc .ready none)) := Turn.of (((Below.refl _ w).alloc (Nat.le_refl _) _).alloc (by simp) _) (Nat.le_refl _)
 have k0 : Bk (rc .ready none) ((w.alloc (.deferred (some []))).alloc (rc .ready none)) := by
  constructor
  ·have := World.alloc_heap_new (w.alloc (.deferred (some []))) (rc .ready none); rwa [World.size_alloc] at this
  ·exact (Below.heap_alloc _ _ _ (by simp)).trans (World.alloc_heap_new w _)
 have hsz : ((w.alloc (.deferred (some []))).alloc (rc .ready none)).heap.size = w.heap.size + 2 := by simp
 obtain ⟨W1, hW1⟩ : ∃ W1, W1 = ((w.alloc (.deferred (some []))).alloc (rc .ready none)) := ⟨_, rfl⟩
 rw [← hW1] at T0 k0 hsz
 refine ⟨w.heap.size + 1, [{ target := .collected w.heap.size, args := #[] }], W1, { target := .fn (.func gf) lb, args := #[.func (.yield (w.heap.size + 1)) #[] #[]] }, W1, gf, #[.func (.yield (w.heap.size + 1)) #[] #[]] ++ lb, W1, ?_, ?_, fun _ _ => trivial, ?_, fun h => (by cases h), ?_⟩
 ·rw [hW1]; exact run_enterLoop_outer _ _ _ _ _
 ·simp only [resolve, hg]
  simp [go_sem]
 ·simp [invoke, go_sem, eg]
 have keepB : ∀ (r : Obj) (X Y : World), Bk r X → Turn (w.heap.size + 2) X Y → Bk r Y := fun r X Y h t => ⟨(t.below.block _ (by omega)).trans h.1, (t.below.block _ (by omega)).trans h.2⟩
 have putB : ∀ (r r' : Obj) (X : World), Bk r X → Bk r' (X.putObj (w.heap.size + 1) r') := fun r r' X h => ⟨World.putObj_heap_same (Array.getElem?_eq_some_iff.1 h.1).1, (World.putObj_heap_other (by omega)).trans h.2⟩
 have putT : ∀ (st : LoopState) (pe : Option Code) (r' : Obj) (X : World), w.heap.size ≤ X.heap.size → Bk (rc st pe) X → Turn w.heap.size X (X.putObj (w.heap.size + 1) r') := fun st pe r' X hX h => Turn.put r' hX (by omega) h.1 rfl
 have keepF : ∀ (r : Obj) (X Y : World), r.isCells = false → Bk r X → KeepsFrom w.heap.size X Y → Bk r Y := fun r X Y hc h k => ⟨k.same _ _ (by omega) h.1 hc, k.same _ _ (Nat.le_refl _) h.2 rfl⟩
 refine CallsIn.mono (hseq (w.heap.size + 1) (n - 1) (fun pre W => I pre W ∧ w.heap.size + 2 ≤ W.heap.size ∧ Bk (rc .ready none) W) (fun pre W => ∃ c, Ix c pre W ∧ Bk (rc .done (some c)) W) _ T0 (fun s X h => by rw [hsz]; exact h.2.1)
  (fun s X Y hX h t => ⟨hI s X Y (hIs s X h.1) h.1 (t.mono (by rw [hsz]; omega)), Nat.le_trans h.2.1 t.below.size, keepB _ X Y h.2.2 (by rw [hsz] at t; exact t)⟩)
  (fun s X Y hX ⟨c, h1, h2⟩ t => ⟨c, hIx c s X Y (by rw [hsz] at hX; omega) h1 (t.mono (by rw [hsz]; omega)), keepB _ X Y h2 (by rw [hsz] at t; exact t)⟩)
  ?_ ⟨hI [] w _ (Nat.le_refl _) h0 T0, by rw [hsz]; omega, k0⟩) ?_
 ·rw [hsz]
  rintro m pre x W ⟨hi, hsW, hb⟩ hgd
  refine ⟨fn, _, assign, body, run_yield hb.1 (hps x), ?_⟩
  refine roundIn_anyDepth (roundIn_of_wpIn hfn (hassign _ pre x W _ hi hsW hgd ?_))
  intro a' Wa kf kp hia hax
  have hba := keepF _ _ _ rfl hb kf
  have hsa : w.heap.size ≤ Wa.heap.size := hIs _ _ hia
  refine ⟨_, run_beginRound hba.1 rfl, ?_⟩
  have t1 := putT _ _ (rc .busy none) Wa hsa hba
  have hb1 := putB _ (rc .busy none) Wa hba
  have hi1 := hI pre _ _ hsa hia t1
  refine wpIn_mono (hbody _ pre x a' _ hi1 (hAx pre x a' () _ _ hsa hax t1)) ?_
  have fin : ∀ (jump : Option Code) (W3 : World), Bk (rc .busy none) W3 → (Instr.endRound (w.heap.size + 1) jump).run P W3 = .ok (.bool jump.isNone) (W3.putObj (w.heap.size + 1) (rc (if jump.isNone then .ready else .done) jump)) := fun jump W3 h => run_endRound jump h.1
  have out : ∀ (c : Code) (W3 : World), KeepsFrom w.heap.size (Wa.putObj (w.heap.size + 1) (rc .busy none)) W3 ∧ Ix c (pre ++ [x]) W3 → ∃ v w', (Instr.endRound (w.heap.size + 1) (some c)).run P W3 = .ok v w' ∧ ((Ending.returned v = .returned (.bool true) ∧ (I (pre ++ [x]) w' ∧ w.heap.size + 2 ≤ w'.heap.size ∧ Bk (rc .ready none) w') ∧ Kp (w.heap.size + 2) W w') ∨ (Ending.returned v = .returned (.bool false) ∧ (∃ c, Ix c (pre ++ [x]) w' ∧ Bk (rc .done (some c)) w') ∧ Oth (w.heap.size + 2) W w')) := fun c W3 h => by
   have hb3 := keepF _ _ _ rfl hb1 h.1
   refine ⟨_, _, fin (some c) W3 hb3, .inr ⟨rfl, ⟨c, ?_, putB _ _ _ hb3⟩, (Oth.from kf (by omega)).trans ((Oth.put _ (by omega)).trans ((Oth.from h.1 (by omega)).trans (Oth.put _ (by omega))))⟩⟩
   exact hIx c _ _ _ (hIxs c _ _ h.2) h.2 (putT _ _ _ _ (hIxs c _ _ h.2) hb3)
  rintro e a3 W3 hp
  cases e with
  | normal =>
   obtain ⟨k3, kp3, hi3⟩ := hp
   have hb3 := keepF _ _ _ rfl hb1 k3
   have hs3 := hIs _ _ hi3
   have t3 := putT _ _ (rc .ready none) W3 hs3 hb3
   refine ⟨_, _, fin none W3 hb3, .inl ⟨rfl, ⟨hI _ _ _ hs3 hi3 t3, ?_, putB _ _ _ hb3⟩, hKt kp (hKt (hKt (hKb _ _ _ hba.1 rfl) kp3) (hKb _ _ _ hb3.1 rfl))⟩⟩
   exact (Array.getElem?_eq_some_iff.1 (putB _ (rc .ready none) _ hb3).1).1
  | ret => exact out .ret W3 hp
  | exit id => exact out (.exit id) W3 hp
  | goto t => exact out (.goto t) W3 hp
  | panic ch => exact hp.elim
  | outgrown => exact hp.elim
 ·rintro e W2 ⟨⟨v, rfl⟩, (⟨xs, hS, hi, hs2, hb⟩ | ⟨pre, hSp, c, hi, hb⟩)⟩
  ·exact ⟨none, _, run_endLoop hb.1 (by simp), hdone _ xs _ (Nat.le_refl _) hS (hI _ _ _ (hIs _ _ hi) hi (putT _ _ _ _ (hIs _ _ hi) hb)) ((World.putObj_heap_other (by omega)).trans hb.2)⟩
  ·exact ⟨some c, _, run_endLoop hb.1 (by simp), hstop _ c pre _ (Nat.le_refl _) hSp (hIx c _ _ _ (hIxs c _ _ hi) hi (putT _ _ _ _ (hIxs c _ _ hi) hb)) ((World.putObj_heap_other (by omega)).trans hb.2)⟩
end Go.Proofs.YtpabbnddeklpdaaGreat

namespace Go.Proofs.YtpabbnddeklpdaaGreat
open Go.RowKit Go.Shelf
set_option linter.unusedVariables false
attribute [local go_sem] Oper.semAt_some

def Nx (G : Nat → Prop) (L : List EntD) (pre : List EntD) (x : EntD) (W : World) : Prop := (pre ++ [x]) <+: L ∧ EOk G W x

set_option maxRecDepth 100000 in
set_option maxHeartbeats 4000000 in
theorem give_in {l : Nat} {G : Nat → Prop} {L : List EntD} {J Jx : List EntD → World → Prop}
  (hY : ∀ m pre x W, J pre W → Nx G L pre x W → YieldAt Fence.wide m Tryz.prog l #[.agg x.cells] W fun e W' => (e = .returned (.bool true) ∧ J (pre ++ [x]) W' ∧ KpC G W W') ∨ (e = .returned (.bool false) ∧ Jx (pre ++ [x]) W')) (T : BT) :
  ∀ (n : Nat) (p : Option Addr) (A C : List EntD) (W : World), L = A ++ T.ord ++ C → IsT G W p T → J A W →
   CallsIn Fence.wide n Tryz.prog 58 #[.pointer p, .func (.yield l) #[] #[]] W fun e W' =>
    (e = .returned (.bool true) ∧ J (A ++ T.ord) W' ∧ KpC G W W') ∨ (e = .returned (.bool false) ∧ ∃ q, (A ++ q) <+: L ∧ Jx (A ++ q) W') := by
 induction T with
 | leaf =>
  intro n p A C W hL hT hJ
  obtain rfl : p = none := hT
  refine callsIn_of_wp Tryz.func58 rfl trivial ?_ rfl
  simp only [Tryz.ntmps58, List.size_toArray, List.length_cons, List.length_nil, Nat.reduceAdd, Nat.reduceSub, Array.replicate_succ, Array.replicate_zero, List.push_toArray, List.append_toArray, List.nil_append, List.cons_append]
  gi_wp2
  refine ⟨trivial, ?_⟩
  rename_i hK
  refine hK _ _ ?_
  gi_big_skip
  refine wpListIn_skip rfl rfl ?_
  simp [Act.put]
  gi_wp2
  ·rename_i b h hq; exact absurd h (by simp [undef])
  ·rename_i b h hq; exact absurd h (by simp [undef])
  refine ⟨trivial, ?_⟩
  gi_wp2
  go_ret
  exact .inl ⟨rfl, by simpa [BT.ord] using hJ, KpC.refl _ _⟩
 | node tl e tr ihl ihr =>
  intro n p A C W hL hT hJ
  obtain ⟨b, pl, pr, rfl, hb, hn, he, hl, hr⟩ := hT
  have hdd : ∀ k : Nat, (Fence.wide.depth.isSome = true → 1 ≤ k) := fun k h => by cases h
  have e1 : L = A ++ tl.ord ++ (e :: tr.ord ++ C) := by rw [hL]; simp [BT.ord]
  have e2 : L = (A ++ tl.ord ++ [e]) ++ tr.ord ++ C := by rw [hL]; simp [BT.ord]
  have hy2 : ∀ W1, J (A ++ tl.ord) W1 → KpC G W W1 → YieldAt Fence.wide (n - 1) Tryz.prog l #[.agg e.cells] W1 fun z W2 =>
    (z = .returned (.bool true) ∧ J (A ++ tl.ord ++ [e]) W2 ∧ KpC G W W2 ∧ W2.cell? ⟨b, 8, none⟩ = some (.pointer pr) ∧ IsT G W2 pr tr) ∨ (z = .returned (.bool false) ∧ Jx (A ++ tl.ord ++ [e]) W2) := fun W1 hJ1 k1 =>
   YieldAt.mono (hY (n - 1) _ e W1 hJ1 ⟨⟨tr.ord ++ C, by rw [e2]; simp⟩, he.keptC k1⟩) fun z W2 h => h.elim
    (fun ⟨hz, hj, k2⟩ => .inl ⟨hz, hj, k1.trans k2, (show NBox W2 _ _ _ _ _ from (k1.trans k2).cells b _ hn rfl hb).cells.2.2.2.2.2.2.2.2.1, hr.keptC (k1.trans k2)⟩) .inr
  have ih1 := (ihl (n - 1) pl A _ W e1 hl hJ).mono (R' := fun z W1 =>
    (z = .returned (.bool true) ∧ (W1.cell? ⟨b, 0, none⟩ = some e.vr ∧ W1.cell? ⟨b, 1, none⟩ = some (.int .i64 e.fam) ∧ W1.cell? ⟨b, 2, none⟩ = some e.vq ∧ W1.cell? ⟨b, 3, none⟩ = some (.int .i64 e.ts) ∧ W1.cell? ⟨b, 4, none⟩ = some (.int .i64 e.seq) ∧ W1.cell? ⟨b, 5, none⟩ = some (.int .i64 e.kind) ∧ W1.cell? ⟨b, 6, none⟩ = some e.vv) ∧ YieldAt Fence.wide (n - 1) Tryz.prog l #[.agg e.cells] W1 fun z W2 =>
     (z = .returned (.bool true) ∧ J (A ++ tl.ord ++ [e]) W2 ∧ KpC G W W2 ∧ W2.cell? ⟨b, 8, none⟩ = some (.pointer pr) ∧ IsT G W2 pr tr) ∨ (z = .returned (.bool false) ∧ Jx (A ++ tl.ord ++ [e]) W2)) ∨
    (z = .returned (.bool false) ∧ ∃ q, (A ++ q) <+: L ∧ Jx (A ++ q) W1))
   (fun z W1 h => h.elim (fun ⟨hz, hj, k1⟩ => .inl ⟨hz, (by
    have c := (show NBox W1 _ _ _ _ _ from k1.cells b _ hn rfl hb).cells
    exact ⟨c.1, c.2.1, c.2.2.1, c.2.2.2.1, c.2.2.2.2.1, c.2.2.2.2.2.1, c.2.2.2.2.2.2.1⟩), hy2 W1 hj k1⟩) .inr)
  have c7 := hn.cells.2.2.2.2.2.2.2.1
  clear hy2 ihl
  unfold EntD.cells at ih1
  refine callsIn_of_wp Tryz.func58 rfl trivial ?_ rfl
  simp only [Tryz.ntmps58, List.size_toArray, List.length_cons, List.length_nil, Nat.reduceAdd, Nat.reduceSub, Array.replicate_succ, Array.replicate_zero, List.push_toArray, List.append_toArray, List.nil_append, List.cons_append]
  gi_wp2_with (first
   | ((first | refine ⟨trivial, hdd _, ?_⟩ | refine ⟨hdd _, ?_⟩); gi_at_call 58; refine ih1.mono ?_; clear ih1; rintro z W1 (⟨rfl, ⟨d0, d1, d2, d3, d4, d5, d6⟩, fn, tmps, assign, body, hy, hR⟩ | ⟨rfl, q, hq, hx1⟩))
   | ((first | refine ⟨trivial, hdd _, ?_⟩ | refine ⟨hdd _, ?_⟩ | skip); refine hR.mono ?_; clear hR; rintro z W2 (⟨rfl, hJ2, hb2, c2', hr2⟩ | ⟨rfl, hx2⟩))
   | ((first | refine ⟨trivial, hdd _, ?_⟩ | refine ⟨hdd _, ?_⟩); gi_at_call 58; refine (ihr (n - 1) pr _ _ _ e2 hr2 hJ2).mono ?_; rintro z W3 (⟨rfl, hJ3, hb3⟩ | ⟨rfl, q, hq, hx3⟩)))
  ·go_ret
   exact .inl ⟨rfl, by simpa [BT.ord, List.append_assoc] using hJ3, hb2.trans hb3⟩
  ·go_ret
   exact .inr ⟨rfl, tl.ord ++ e :: q, by simpa [List.append_assoc] using hq, by simpa [List.append_assoc] using hx3⟩
  ·refine ⟨trivial, ?_⟩
   gi_wp2
   go_ret
   exact .inr ⟨rfl, tl.ord ++ [e], ⟨tr.ord ++ C, by rw [e2]; simp⟩, by simpa [List.append_assoc] using hx2⟩
  ·refine ⟨fun _ h => (by cases h), ?_⟩
   gi_wp2
   refine ⟨trivial, ?_⟩
   gi_wp2
   go_ret
   exact .inr ⟨rfl, q, hq, hx1⟩

set_option maxRecDepth 100000 in
set_option maxHeartbeats 2000000 in
theorem oall1_in {l Bo n : Nat} {G : Nat → Prop} {p : Option Addr} {T : BT} {J Jx : List EntD → World → Prop}
  (hY : ∀ m pre x W, J pre W → Nx G T.ord pre x W → YieldAt Fence.wide m Tryz.prog l #[.agg x.cells] W fun e W' => (e = .returned (.bool true) ∧ J (pre ++ [x]) W' ∧ KpC G W W') ∨ (e = .returned (.bool false) ∧ Jx (pre ++ [x]) W'))
  (W : World) (hB : OBox W Bo p) (hT : IsT G W p T) (h0 : J [] W) :
  CallsIn Fence.wide n Tryz.prog 57 #[.func (.yield l) #[] #[], .pointer (some ⟨Bo, 0, none⟩)] W fun e W' => (∃ v, e = .returned v) ∧ ((∃ xs, xs = T.ord ∧ J xs W') ∨ (∃ pre, pre <+: T.ord ∧ Jx pre W')) := by
 have hdd : ∀ k : Nat, (Fence.wide.depth.isSome = true → 1 ≤ k) := fun k h => by cases h
 have hp := give_in hY T (n - 1) p [] [] W (by simp) hT h0
 have c0 := hB.c0
 refine callsIn_of_wp Tryz.func57 rfl trivial ?_ rfl
 simp only [Tryz.ntmps57, List.size_toArray, List.length_cons, List.length_nil, Nat.reduceAdd, Nat.reduceSub, Array.replicate_succ, Array.replicate_zero, List.push_toArray, List.append_toArray, List.nil_append, List.cons_append]
 gi_wp2_with ((first | refine ⟨trivial, hdd _, ?_⟩ | refine ⟨hdd _, ?_⟩); gi_at_call 58; refine hp.mono ?_; clear hp; rintro e W1 (⟨rfl, hJ1, _⟩ | ⟨rfl, q, hq, hx⟩))
 ·go_end0
  exact ⟨⟨_, rfl⟩, .inl ⟨_, rfl, by simpa using hJ1⟩⟩
 ·go_end0
  exact ⟨⟨_, rfl⟩, .inr ⟨q, by simpa using hq, by simpa using hx⟩⟩
end Go.Proofs.YtpabbnddeklpdaaGreat

namespace Go.Proofs.YtpabbnddeklpdaaGreat
open Go.RowKit Go.Shelf
set_option linter.unusedVariables false
attribute [local go_sem] Oper.semAt_some

def Sm : List EntD → List EntD → Prop
 | [], [] => True
 | x :: xs, y :: ys => EntD.Same x y ∧ Sm xs ys
 | _, _ => False
theorem Sm.len : ∀ {xs ys : List EntD}, Sm xs ys → xs.length = ys.length
 | [], [], _ => rfl
 | _ :: _, _ :: _, h => by simp [Sm.len h.2]
 | [], _ :: _, h => h.elim
 | _ :: _, [], h => h.elim
theorem Sm.snoc : ∀ {xs ys : List EntD} {x y : EntD}, Sm xs ys → EntD.Same x y → Sm (xs ++ [x]) (ys ++ [y])
 | [], [], _, _, _, h => ⟨h, trivial⟩
 | _ :: _, _ :: _, _, _, h, k => ⟨h.1, Sm.snoc h.2 k⟩
 | [], _ :: _, _, _, h, _ => h.elim
 | _ :: _, [], _, _, h, _ => h.elim
def NxC (L : List EntD) (B : Nat) (pre : List EntD) (x : EntD) (W : World) : Prop := B + 4 ≤ W.heap.size ∧ (∃ q, q <+: L ∧ Sm (pre ++ [x]) q) ∧ EOk (fun i => B + 4 ≤ i) W x
structure KpO (G : Nat → Prop) (B : Nat) (w w' : World) : Prop where
 keeps : KpC (fun i => G i ∨ (B ≤ i ∧ i < B + 4)) w w'
 others : Oth B w w'
theorem KpO.trans {G : Nat → Prop} {B : Nat} {a b c : World} (h : KpO G B a b) (k : KpO G B b c) : KpO G B a c := ⟨h.keeps.trans k.keeps, h.others.trans k.others⟩
theorem KpO.put {G : Nat → Prop} {B r : Nat} {w : World} (o o' : Obj) (hr : r < B) (ho : w.heap[r]? = some o) (hc : o.isCells = false) : KpO G B w (w.putObj r o') :=
 ⟨KpC.put o' ho hc, Oth.put o' hr⟩


theorem roundIn_inRound {m : Nat} {P : Program} {l : Nat} {f : FuncId} {tmps : Array Value} {assign body : Code} {w : World} {R : Ending → World → Prop} (l' : Nat) (h : RoundIn Fence.wide m P l f tmps assign body w R) : RoundIn (Fence.wide.inRound l') m P l f tmps assign body w R := h
theorem _root_.Go.KeepsFrom.mono' {B B' : Nat} {w w' : World} (h : KeepsFrom B w w') (hB : B ≤ B') : KeepsFrom B' w w' := ⟨h.size, fun i o k hi ho => h.same i o (Nat.le_trans hB k) hi ho⟩

set_option maxRecDepth 100000 in
set_option maxHeartbeats 4000000 in
theorem giveCopies_in {l n : Nat} {G : Nat → Prop} {p : Option Addr} {T : BT} {J Jx : List EntD → World → Prop} {W0 : Nat} (W : World) (hW0 : W0 + 1 = W.heap.size) (hB : OBox W W0 p) (hT : IsT G W p T) (hlen : ∀ x ∈ T.ord, x.row.length ≤ 140737488355328 ∧ x.qual.length ≤ 140737488355328 ∧ x.val.length ≤ 140737488355328)
  (hJs : ∀ s X, J s X → W0 ≤ X.heap.size) (hJ : AbT W0 J) (hJx : AbT W0 Jx)
  (hY : ∀ m pre x W1, J pre W1 → NxC T.ord W0 pre x W1 → YieldAt Fence.wide m Tryz.prog l #[.agg x.cells] W1 fun e W' => (e = .returned (.bool true) ∧ J (pre ++ [x]) W' ∧ KpO G W0 W1 W') ∨ (e = .returned (.bool false) ∧ Jx (pre ++ [x]) W' ∧ Oth W0 W1 W'))
  (h0 : J [] W) :
  CallsIn Fence.wide n Tryz.prog 26 #[.func (.func 57) #[] #[.pointer (some ⟨W0, 0, none⟩)], .func (.yield l) #[] #[]] W fun e W' => (∃ v, e = .returned v) ∧ ((∃ xs, Sm xs T.ord ∧ J xs W') ∨ (∃ pre, (∃ q, q <+: T.ord ∧ Sm pre q) ∧ Jx pre W')) := by
 refine callsIn_of_wp_marks Tryz.func26 rfl trivial ?_ rfl
 simp only [Tryz.ntmps26, List.size_toArray, List.length_cons, List.length_nil, Nat.reduceAdd, Nat.reduceSub, Array.replicate_succ, Array.replicate_zero, List.push_toArray, List.append_toArray, List.nil_append, List.cons_append]
 gi_wp2
 have eY : (W.alloc (.cells #[.func (.yield l) #[] #[]] 65)).heap[W.heap.size]? = some (.cells #[.func (.yield l) #[] #[]] 65 (0, 0)) := World.alloc_heap_new W _
 have T1 : Turn W0 W (W.alloc (.cells #[.func (.yield l) #[] #[]] 65)) := Turn.of ((Below.refl _ W).alloc (Nat.le_refl _) _) (by omega)
 have hB1 := T1.obox hB
 have hT1 := hT.keptC T1.toC
 have h01 := hJ [] _ _ (by omega) h0 T1
 have hs1 : (W.alloc (.cells #[.func (.yield l) #[] #[]] 65)).heap.size = W0 + 2 := by simp; omega
 generalize W.alloc (.cells #[.func (.yield l) #[] #[]] 65) = V at *
 obtain ⟨Y, hYe⟩ : ∃ Y, Y = W.heap.size := ⟨_, rfl⟩
 rw [← hYe] at eY hW0 ⊢
 clear hYe
 refine range_wide (w := V) rfl (enters_of Tryz.func57 (by kernel_rfl) rfl) (encs := fun x : EntD => #[.agg x.cells]) (Gd := fun _ => Nx G T.ord) (Kp := fun _ => KpC G) (S := fun xs => xs = T.ord) (Sp := fun pre => pre <+: T.ord)
  (fun l' n' J' Jx' X hX _ _ _ hY' h0' => oall1_in (fun m pre x W1 a b => (hY' m pre x W1 a b).mono (fun e w' h => h.imp id (fun k => ⟨k.1, k.2.1⟩))) X (hX.obox hB1) (hT1.keptC hX.toC) h0') (fun h k => h.trans k) (fun X o o' ho hc => KpC.put o' ho hc) (fun _ => rfl)
  (fun pre X => ∃ qs, Sm qs pre ∧ J qs X ∧ IsT G X p T ∧ X.heap[Y]? = some (.cells #[.func (.yield l) #[] #[]] 65 (0, 0)) ∧ W0 + 2 ≤ X.heap.size)
  (fun c pre X => c = .ret ∧ ∃ qs, Sm qs pre ∧ Jx qs X ∧ W0 + 2 ≤ X.heap.size)
  (fun s X h => by rw [hs1]; exact h.choose_spec.2.2.2.2)
  (fun s X Z hX ⟨qs, k1, k2, k3, k4, k5⟩ t => ⟨qs, k1, hJ _ _ _ (by omega) k2 (t.mono (by omega)), k3.keptC t.toC, t.cells _ _ k4 rfl, Nat.le_trans k5 t.below.size⟩)
  (fun c s X Z hX ⟨k0, qs, k1, k2, k5⟩ t => ⟨k0, qs, k1, hJx _ _ _ (by omega) k2 (t.mono (by omega)), Nat.le_trans k5 t.below.size⟩)
  ⟨[], trivial, h01, hT1, eY, by omega⟩
  (fun pre x a' X => ∃ Bx, W0 + 4 ≤ Bx ∧ EBox X Bx x ∧ Nx G T.ord pre x X ∧ a' = { tmps := #[.func (.func 57) #[] #[.pointer (some ⟨W0, 0, none⟩)], .func (.yield l) #[] #[], undef, .pointer (some ⟨Y, 0, none⟩), .pointer (some ⟨Bx, 0, none⟩), .func (.func 57) #[] #[.pointer (some ⟨W0, 0, none⟩)], .agg x.cells, undef, undef, undef, undef, undef], defers := [] })
  (fun pre x a' _ X Z hX ⟨Bx, k0, k1, k2, k3⟩ t => ⟨Bx, k0, t.cells _ _ k1 rfl, ⟨k2.1, k2.2.keptC t.toC⟩, k3⟩)
  ?assign ?body ?done ?stop (fun c s X h => by rw [hs1]; exact h.2.choose_spec.2.2)
 case assign =>
  intro l' pre x X K hi hsX hgd hK
  have hsX' : W0 + 4 ≤ X.heap.size := by omega
  obtain ⟨vr, fam, vq, ts, seq, kind, vv, row, qual, val⟩ := x
  have r1 : Rd X vr row := hgd.2.1.1
  have r2 : Rd X vq qual := hgd.2.2.1.1
  have r3 : Rd X vv val := hgd.2.2.2.1
  obtain ⟨ar, nr, cr, rfl⟩ := rd_slice r1
  obtain ⟨aq, nq, cq, rfl⟩ := rd_slice r2
  obtain ⟨av, nv, cv, rfl⟩ := rd_slice r3
  have hb := (Below.refl X.heap.size X).alloc (Nat.le_refl _) (.cells (EntD.mk (.slice ar nr cr) fam (.slice aq nq cq) ts seq kind (.slice av nv cv) row qual val).cells 38)
  have t := Turn.of (B := V.heap.size) hb (by omega)
  have HI : Hid (∃ qs, Sm qs pre ∧ J qs _ ∧ IsT G _ p T ∧ _ ∧ W0 + 2 ≤ _) := (fun ⟨qs, k1, k2, k3, k4, k5⟩ => ⟨qs, k1, hJ _ _ _ (by omega) k2 (t.mono (by omega)), k3.keptC t.toC, t.cells _ _ k4 rfl, Nat.le_trans k5 t.below.size⟩) hi
  have HN : Hid (Nx G T.ord pre _ _) := ⟨hgd.1, hgd.2.keptC t.toC⟩
  have HT : Hid (Turn V.heap.size X _) := t
  have HX : Hid (EBox (X.alloc (.cells (EntD.mk (.slice ar nr cr) fam (.slice aq nq cq) ts seq kind (.slice av nv cv) row qual val).cells 38)) X.heap.size _) := EBox.new X _
  clear hb t hi hgd r1 r2 r3
  simp only [EntD.cells] at *
  gi_wp2
  exact hK _ _ ((KeepsOthers.alloc _ _).from _) HT.out.toC HI.out ⟨X.heap.size, hsX', HX.out, HN.out, rfl⟩
 case body =>
  rintro l' pre x a' X ⟨qs, k1, k2, k3, k4, k5⟩ ⟨Bx, hBx, bx, hnx, rfl⟩
  have hmx : Tryz.prog.follows .mixedOrders = true := by kernel_rfl
  have hdd : ∀ k : Nat, ((Fence.wide.inRound l').depth.isSome = true → 1 ≤ k) := fun k h => by cases h
  have hdd2 : ∀ k : Nat, (Fence.wide.depth.isSome = true → 1 ≤ k) := fun k h => by cases h
  have hXb : Bx < X.heap.size := (Array.getElem?_eq_some_iff.1 bx).1
  have yc : X.cell? ⟨Y, 0, none⟩ = some (.func (.yield l) #[] #[]) := by simp [World.cell?, k4]
  have HYc : Hid (∀ Z, Below X.heap.size X Z → Z.cell? ⟨Y, 0, none⟩ = some (.func (.yield l) #[] #[])) := fun Z b => (b.cell (p := ⟨Y, 0, none⟩) (World.block_lt_of_cell? _ _ yc)).trans yc
  have hmem : x ∈ T.ord := by
   obtain ⟨r, hr⟩ := hnx.1
   rw [← hr]; simp
  have HC : Hid (∀ Z, Below X.heap.size X Z → Calls Tryz.prog 24 #[.agg x.cells] Z fun z w' => ∃ e : EntD, z = .returned (.agg e.cells) ∧ EntD.Same e x ∧ EOk (fun i => Z.heap.size ≤ i) w' e ∧ Below Z.heap.size Z w') := fun Z b => copyOf_any (hnx.2.ok.later b) (hlen x hmem)
  have HYY : Hid (∀ Z e, Below X.heap.size X Z → EntD.Same e x → EOk (fun i => X.heap.size ≤ i) Z e → YieldAt Fence.wide n Tryz.prog l #[.agg e.cells] Z fun z W' => ∃ t : Bool, z = .returned (.bool t) ∧ Hid ((t = true → KeepsFrom V.heap.size X W' ∧ KpC G X W' ∧ ∃ qs, Sm qs (pre ++ [x]) ∧ J qs W' ∧ IsT G W' p T ∧ W'.heap[Y]? = some (.cells #[.func (.yield l) #[] #[]] 65 (0, 0)) ∧ W0 + 2 ≤ W'.heap.size) ∧ (t = false → KeepsFrom V.heap.size X W' ∧ ∃ qs, Sm qs (pre ++ [x]) ∧ Jx qs W' ∧ W0 + 2 ≤ W'.heap.size))) := fun Z e b hse hek => by
   have tZ : Turn W0 X Z := Turn.of b (by omega)
   refine (hY n qs e Z (hJ _ _ _ (by omega) k2 tZ) ⟨by have := b.size; omega, ⟨pre ++ [x], hnx.1, k1.snoc hse⟩, hek.mono (fun i hi => by omega)⟩).mono ?_
   rintro z W' (⟨hz, j1, kp⟩ | ⟨hz, j1, kp⟩)
   ·refine ⟨true, hz, fun _ => ⟨((Oth.of b).trans kp.others).keeps.mono' (by omega), (KpC.trans (tZ.toC) (kp.keeps.mono (fun i hi => .inl hi))), qs ++ [e], k1.snoc hse, j1, (k3.keptC tZ.toC).keptC (kp.keeps.mono (fun i hi => .inl hi)), kp.keeps.cells _ _ (tZ.cells _ _ k4 rfl) rfl (.inr ⟨by omega, by omega⟩), ?_⟩, fun h => (by cases h)⟩
    have := b.size; have := kp.others.size; omega
   ·refine ⟨false, hz, fun h => (by cases h), fun _ => ⟨((Oth.of b).trans kp).keeps.mono' (by omega), qs ++ [e], k1.snoc hse, j1, ?_⟩⟩
    have := b.size; have := kp.size; omega
  obtain ⟨c0, c1, c2, c3, c4, c5, c6⟩ := (⟨bx.vr, bx.fam, bx.vq, bx.ts, bx.seq, bx.kind, bx.vv⟩ : _ ∧ _ ∧ _ ∧ _ ∧ _ ∧ _ ∧ _)
  have D0 : Below X.heap.size X X.drew := (Below.refl _ _).drew
  unfold EntD.cells at HC HYY
  unfold EntD.cells
  clear k1 k2 k3 hnx hmem bx hY hlen hJ hJx hT1 hT hB hB1
  gi_wp2
  gi_region_with_o (first | (refine ⟨trivial, hdd _, ?_⟩; gi_at_call 24; refine (CallsIn.inRound l' (callsIn_wide.2 (HC.out _ D0))).mono ?_; rintro z w1 ⟨e, rfl, hse, hek, hb1⟩; have yc1 := HYc.out _ (D0.trans (hb1.mono D0.size)); obtain ⟨fn, tmps, assign, body, hy, hR⟩ := HYY.out _ e (D0.trans (hb1.mono D0.size)) hse hek) | (refine ⟨hdd2 _, ?_⟩; refine (roundIn_inRound l' (roundIn_anyDepth hR)).mono ?_; rintro z W3 ⟨tt, rfl, hr⟩))
  all_goals
   cases tt
   ·gi_wp2
    have h2 := hr.out.2 (by first | rfl | trivial)
    exact ⟨by rw [← hs1]; exact h2.1, rfl, h2.2⟩
   ·gi_wp2
    have h2 := hr.out.1 (by first | rfl | trivial)
    exact ⟨by rw [← hs1]; exact h2.1, h2.2.1, h2.2.2⟩
 case done =>
  rintro D xs X hD rfl ⟨qs, k1, k2, k3, k4, k5⟩ hdf
  gi_wp2
  refine ⟨by simp, .inl ⟨_, _, rfl, run_takeDeferred hdf, ?_⟩⟩
  exact ⟨_, results_none rfl _ _ _, ⟨_, rfl⟩, .inl ⟨qs, k1, hJ _ _ _ (by omega) k2 (Turn.put _ (by omega) (by omega) hdf rfl)⟩⟩
 case stop =>
  rintro D c pre X hD hsp ⟨rfl, qs, k1, k2, k5⟩ hdf
  gi_wp2
  refine ⟨by simp, .inl ⟨_, _, rfl, run_takeDeferred hdf, ?_⟩⟩
  exact ⟨_, results_none rfl _ _ _, ⟨_, rfl⟩, .inr ⟨qs, ⟨pre, hsp, k1⟩, hJx _ _ _ (by omega) k2 (Turn.put _ (by omega) (by omega) hdf rfl)⟩⟩

set_option maxRecDepth 100000 in
set_option maxHeartbeats 4000000 in
theorem all_seq {G : Nat → Prop} {w : World} {Bt t : Nat} {p : Option Addr} {T : BT} {n k : Int} {f : Bool} (hBt : w.heap[Bt]? = some (.cells #[.pointer (some ⟨t, 0, none⟩)] 25 (0, 0))) (hb : TBox w t p n k f) (hT : IsT G w p T) (hlen : ∀ x ∈ T.ord, x.row.length ≤ 140737488355328 ∧ x.qual.length ≤ 140737488355328 ∧ x.val.length ≤ 140737488355328) :
  SeqW Tryz.prog 40 #[.pointer (some ⟨Bt, 0, none⟩)] (fun x : EntD => #[.agg x.cells]) (NxC T.ord) (KpO G) (fun xs => Sm xs T.ord) (fun pre => ∃ q, q <+: T.ord ∧ Sm pre q) w := by
 intro l n' J Jx W hW hJs hJ hJx hY h0
 have hdd : ∀ k : Nat, (Fence.wide.depth.isSome = true → 1 ≤ k) := fun k h => by cases h
 have e1 := hW.cells _ _ hBt rfl
 have e2 : TBox W t p n k f := hW.cells _ _ hb rfl
 have e3 := hT.keptC hW.toC
 have c1 : W.cell? ⟨Bt, 0, none⟩ = some (.pointer (some ⟨t, 0, none⟩)) := by simp [World.cell?, e1]
 have c2 := e2.cells.1
 have c3 := e2.cells.2.1
 have hA : Below W.heap.size W (W.alloc (.cells #[.pointer p, .func (.func 22) #[] #[]] 61)) := (Below.refl _ W).alloc (Nat.le_refl _) _
 have tA := Turn.of hA (Nat.le_refl _)
 have hC := giveCopies_in (l := l) (n := n' - 1) (J := J) (Jx := Jx) (W0 := W.heap.size) _ (World.size_alloc W (.cells #[.pointer p, .func (.func 22) #[] #[]] 61)).symm (OBox.new W p) (e3.keptC tA.toC) hlen hJs hJ hJx hY (hJ _ _ _ (Nat.le_refl _) h0 tA)
 refine callsIn_of_wp Tryz.func40 rfl trivial ?_ rfl
 simp only [Tryz.ntmps40, List.size_toArray, List.length_cons, List.length_nil, Nat.reduceAdd, Nat.reduceSub, Array.replicate_succ, Array.replicate_zero, List.push_toArray, List.append_toArray, List.nil_append, List.cons_append]
 have HO : Hid (Calls Tryz.prog 41 #[.agg #[.pointer p, .func (.func 22) #[] #[]]] W _) := oall_any W p
 clear hY hJ hJx hJs h0 e1 e2 e3
 gi_wp2_with (first | (refine ⟨trivial, hdd _, ?_⟩; gi_at_call 41; refine (callsIn_wide.2 HO.out).mono ?_; rintro z w' ⟨rfl, rfl⟩) | (refine ⟨trivial, hdd _, ?_⟩; gi_at_call 26; refine hC.mono ?_; clear hC; rintro z W1 ⟨⟨v, rfl⟩, hr⟩))
 go_end0
 exact ⟨⟨_, rfl⟩, hr⟩
end Go.Proofs.YtpabbnddeklpdaaGreat
