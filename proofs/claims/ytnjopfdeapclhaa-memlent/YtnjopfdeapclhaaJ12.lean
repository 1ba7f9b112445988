import Derived.Test.YtnjopfdeapclhaaJ10
import Derived.Test.YtnjopfdeapclhaaJ11
import Derived.RangeFuncNested
import Derived.RangeFuncBound
import Derived.RangeFuncCalls
import Derived.RangeFuncLeaves
import Derived.Shelf.Abstract
import Derived.Shelf.RegionOpen
import Derived.OwnWalkIn
import Derived.TacticsInMore
import Derived.LoopNIn
import Derived.LoopIn
import Derived.Sort.QuietIn
namespace Go.Proofs.Ytnjopfdeapclhaa
open Go.RowKit Go.Shelf
set_option linter.unusedVariables false
attribute [local go_sem] Oper.semAt_some

/-- What lies below B is kept, and all cells. -/
structure Turn (B : Nat) (w w' : World) : Prop where
  below : Below B w w'
  cells : ∀ (i : Nat) (o : Obj), w.heap[i]? = some o → o.isCells = true → w'.heap[i]? = some o
theorem Turn.refl (B : Nat) (w : World) : Turn B w w := ⟨Below.refl _ _, fun _ _ h _ => h⟩
theorem Turn.trans {B : Nat} {a b c : World} (h : Turn B a b) (k : Turn B b c) : Turn B a c := ⟨h.below.trans k.below, fun i o hi ho => k.cells i o (h.cells i o hi ho) ho⟩
theorem Turn.mono {B B' : Nat} {w w' : World} (h : Turn B w w') (hB : B' ≤ B) : Turn B' w w' := ⟨h.below.mono hB, h.cells⟩
theorem Turn.of {B : Nat} {w w' : World} (h : Below w.heap.size w w') (hB : B ≤ w.heap.size) : Turn B w w' := ⟨h.mono hB, fun i o hi _ => (h.block i (Array.getElem?_eq_some_iff.1 hi).1).trans hi⟩
theorem Turn.grown {B : Nat} {w w' : World} {row : Option Nat} (hg : w.grownBy w' row) (hB : B ≤ w.heap.size) (hr : ∀ r, row = some r → B ≤ r ∧ ∃ o : Obj, w.heap[r]? = some o ∧ o.isCells = false) : Turn B w w' :=
  ⟨(Below.refl B w).grown hg hB (fun k e => (hr k e).1), fun i o hi ho => (hg.block i (Array.getElem?_eq_some_iff.1 hi).1 (fun e => by
    obtain ⟨_, o', h1, h2⟩ := hr i e.symm
    rw [hi] at h1; cases h1; rw [ho] at h2; cases h2)).trans hi⟩
theorem Turn.put {B : Nat} {w : World} {r : Nat} {o : Obj} (o' : Obj) (hB : B ≤ w.heap.size) (hr : B ≤ r) (ho : w.heap[r]? = some o) (hc : o.isCells = false) : Turn B w (w.putObj r o') :=
  Turn.grown (grownBy_putObj' w r o') hB (fun k e => by cases e; exact ⟨hr, o, ho, hc⟩)
theorem Turn.kp {G : Nat → Prop} {B : Nat} {w w' : World} (h : Turn B w w') (hc : ∀ i, i < w.heap.size → G i → ∃ o : Obj, w.heap[i]? = some o ∧ o.isCells = true) : KpG G w w' :=
  ⟨h.below.size, fun i hi hg => by obtain ⟨o, h1, h2⟩ := hc i hi hg; exact (h.cells i o h1 h2).trans h1.symm⟩
/-- Cells in blocks of G are kept. -/
structure KpC (G : Nat → Prop) (w w' : World) : Prop where
  size : w.heap.size ≤ w'.heap.size
  cells : ∀ (i : Nat) (o : Obj), w.heap[i]? = some o → o.isCells = true → G i → w'.heap[i]? = some o
theorem KpC.refl (G : Nat → Prop) (w : World) : KpC G w w := ⟨Nat.le_refl _, fun _ _ h _ _ => h⟩
theorem KpC.trans {G : Nat → Prop} {a b c : World} (h : KpC G a b) (k : KpC G b c) : KpC G a c := ⟨Nat.le_trans h.size k.size, fun i o hi ho hg => k.cells i o (h.cells i o hi ho hg) ho hg⟩
theorem KpG.toC {G : Nat → Prop} {w w' : World} (h : KpG G w w') : KpC G w w' := ⟨h.size, fun i o hi _ hg => (h.block i (Array.getElem?_eq_some_iff.1 hi).1 hg).trans hi⟩
theorem Turn.toC {G : Nat → Prop} {B : Nat} {w w' : World} (h : Turn B w w') : KpC G w w' := ⟨h.below.size, fun i o hi ho _ => h.cells i o hi ho⟩
theorem KpC.mono {G G' : Nat → Prop} {w w' : World} (h : KpC G w w') (hg : ∀ i, G' i → G i) : KpC G' w w' := ⟨h.size, fun i o hi ho k => h.cells i o hi ho (hg i k)⟩
theorem KpC.put {G : Nat → Prop} {w : World} {r : Nat} {o : Obj} (o' : Obj) (ho : w.heap[r]? = some o) (hc : o.isCells = false) : KpC G w (w.putObj r o') := ⟨by simp, fun i u hi hu _ => (World.putObj_heap_other (fun e => by subst e; rw [hi] at ho; cases ho; rw [hu] at hc; cases hc)).trans hi⟩
theorem KpC.cell {G : Nat → Prop} {w w' : World} (h : KpC G w w') {a : Addr} {v : Value} (hg : G a.block) (ha : w.cell? a = some v) : w'.cell? a = some v := by
  obtain ⟨o, h1, h2⟩ := cells_of_cell ha
  rw [World.cell?_of_block (w := w) ((h.cells _ o h1 h2 hg).trans h1.symm)]; exact ha
theorem RdG.keptC {G : Nat → Prop} {w w' : World} {v : Value} {bs : List Nat} (h : RdG G w v bs) (hk : KpC G w w') : RdG G w' v bs := by
  obtain ⟨⟨h1, a, cap, rfl, h3, h4, h5, h6, h7⟩, hg⟩ := h
  refine ⟨⟨h1, a, cap, rfl, h3, h4, h5, h6, ?_⟩, fun b off m c e hm => ?_⟩
  · rcases h7 with h7 | ⟨b, off, rfl, hc⟩
    · exact .inl h7
    · by_cases h0 : bs = []
      · exact .inl h0
      · exact .inr ⟨b, off, rfl, fun i hi => hk.cell (a := ⟨b, off + i, none⟩) (hg b off _ _ rfl (by omega)).1 (hc i hi)⟩
  · obtain ⟨h8, cur, fr, h9⟩ := hg b off m c e hm
    exact ⟨h8, cur, fr, hk.cells b _ h9 rfl h8⟩
theorem EOk.keptC {G : Nat → Prop} {w w' : World} {e : EntD} (h : EOk G w e) (hk : KpC G w w') : EOk G w' e := ⟨h.1.keptC hk, h.2.1.keptC hk, h.2.2.keptC hk⟩
theorem IsT.keptC {G : Nat → Prop} {w w' : World} (hk : KpC G w w') : ∀ {p : Option Addr} {T : BT}, IsT G w p T → IsT G w' p T
  | _, .leaf, h => h
  | _, .node _ _ _, ⟨b, pl, pr, hp, hb, hn, he, hl, hr⟩ => ⟨b, pl, pr, hp, hb, hk.cells b _ hn rfl hb, he.keptC hk, hl.keptC hk, hr.keptC hk⟩
theorem Turn.obox {B g : Nat} {w w' : World} {p : Option Addr} (h : Turn B w w') (hb : OBox w g p) : OBox w' g p := h.cells g _ hb rfl

/-- It does not mind such a turn. -/
def AbT {β : Type} (B : Nat) (J : β → World → Prop) : Prop := ∀ s w w', B ≤ w.heap.size → J s w → Turn B w w' → J s w'
theorem AbT.own {β : Type} {B : Nat} {J : β → World → Prop} (h : AbT B J) (hB : ∀ s w, J s w → B ≤ w.heap.size) : OwnFrom B J := fun s w w' row hs hg hr => h s w w' (hB s w hs) hs (Turn.grown hg (hB s w hs) hr)

theorem wide_room (k : Nat) : Fence.wide.room k := fun d h => by cases h
theorem roundIn_anyDepth {m m' : Nat} {P : Program} {l : Nat} {f : FuncId} {tmps : Array Value} {assign body : Code} {w : World} {R : Ending → World → Prop} (h : RoundIn Fence.wide m P l f tmps assign body w R) : RoundIn Fence.wide m' P l f tmps assign body w R := ⟨h.1, fun c cs _ => h.2 c cs (wide_room _)⟩

/-- Whatever is no cells, from B on, is kept. -/
structure Oth (B : Nat) (w w' : World) : Prop where
  size : w.heap.size ≤ w'.heap.size
  same : ∀ (i : Nat) (o : Obj), B ≤ i → w.heap[i]? = some o → o.isCells = false → w'.heap[i]? = some o
theorem Oth.trans {B : Nat} {a b c : World} (h : Oth B a b) (k : Oth B b c) : Oth B a c := ⟨Nat.le_trans h.size k.size, fun i o hB hi ho => k.same i o hB (h.same i o hB hi ho) ho⟩
theorem Oth.put {B r : Nat} {w : World} (o : Obj) (hr : r < B) : Oth B w (w.putObj r o) := ⟨by simp, fun i u hB hi hu => (World.putObj_heap_other (by omega)).trans hi⟩
theorem Oth.of {B : Nat} {w w' : World} (h : Below w.heap.size w w') : Oth B w w' := ⟨h.size, fun i o _ hi _ => (h.block i (Array.getElem?_eq_some_iff.1 hi).1).trans hi⟩
theorem Oth.keeps {B : Nat} {w w' : World} (h : Oth B w w') : KeepsFrom B w w' := ⟨h.size, h.same⟩
theorem Oth.from {B B' : Nat} {w w' : World} (h : KeepsFrom B w w') (hB : B ≤ B') : Oth B' w w' := ⟨h.size, fun i o k hi ho => h.same i o (Nat.le_trans hB k) hi ho⟩

/-- An iterator, whose rounds are told what they are handed. -/
def SeqW {α : Type} (P : Program) (gf : Nat) (lb : Array Value) (encs : α → Array Value) (Gd : Nat → List α → α → World → Prop) (Kp : Nat → World → World → Prop) (S Sp : List α → Prop) (w : World) : Prop :=
  ∀ (l n : Nat) (J Jx : List α → World → Prop) (W : World), Turn w.heap.size w W → (∀ s X, J s X → W.heap.size ≤ X.heap.size) → AbT W.heap.size J → AbT W.heap.size Jx →
    (∀ m pre x W1, J pre W1 → Gd W.heap.size pre x W1 → YieldAt Fence.wide m P l (encs x) W1 fun e W' => (e = .returned (.bool true) ∧ J (pre ++ [x]) W' ∧ Kp W.heap.size W1 W') ∨ (e = .returned (.bool false) ∧ Jx (pre ++ [x]) W' ∧ Oth W.heap.size W1 W')) →
    J [] W → CallsIn Fence.wide n P gf (#[.func (.yield l) #[] #[]] ++ lb) W fun e W' => (∃ v, e = .returned v) ∧ ((∃ xs, S xs ∧ J xs W') ∨ (∃ pre, Sp pre ∧ Jx pre W'))

/-- A range over it: the loop's own record is hidden; every round keeps Kp and what is no cells from the loop's start on. -/
theorem range_wide {α : Type} {P : Program} {g : Operand} {ps : Array Tmp} {assign body : Code} {Q : Exit → Act → World → Prop} {a : Act} {w : World} {n : Nat} {gf : Nat} {lb : Array Value}
    (hg : a.eval g = .func (.func gf) #[] lb) (eg : ∀ args w, (callFunc gf args).run P w = .ok (.enter gf args) w)
    {encs : α → Array Value} {Gd : Nat → List α → α → World → Prop} {Kp : Nat → World → World → Prop} {S Sp : List α → Prop} (hseq : SeqW P gf lb encs Gd Kp S Sp w)
    (hKt : ∀ {A B C : World}, Kp (w.heap.size + 2) A B → Kp (w.heap.size + 2) B C → Kp (w.heap.size + 2) A C) (hKb : ∀ (W : World) (o o' : Obj), W.heap[w.heap.size + 1]? = some o → o.isCells = false → Kp (w.heap.size + 2) W (W.putObj (w.heap.size + 1) o')) (hps : ∀ x, (encs x).size = ps.size)
    (I : List α → World → Prop) (Ix : Code → List α → World → Prop) (hIs : ∀ s X, I s X → w.heap.size ≤ X.heap.size) (hI : AbT w.heap.size I) (hIx : ∀ c, AbT w.heap.size (Ix c)) (h0 : I [] w)
    (Ax : List α → α → Act → World → Prop) (hAx : ∀ pre x a', AbT w.heap.size (fun (_ : Unit) W => Ax pre x a' W))
    (hassign : ∀ (l : Nat) (pre : List α) (x : α) (W : World) (K : Act → World → Prop), I pre W → w.heap.size + 2 ≤ W.heap.size → Gd (w.heap.size + 2) pre x W → (∀ a' W', KeepsFrom w.heap.size W W' → Kp (w.heap.size + 2) W W' → I pre W' → Ax pre x a' W' → K a' W') →
      assign.wpIn (Fence.wide.inRound l) n P (Exit.then K (fun _ _ _ => False)) { tmps := (ps.zip (encs x)).foldl (fun t (p, v) => t.setIfInBounds p v) a.tmps, defers := [] } W)
    (hbody : ∀ (l : Nat) (pre : List α) (x : α) (a' : Act) (W : World), I pre W → Ax pre x a' W → body.wpIn (Fence.wide.inRound l) n P (ownPostG w.heap.size (Kp (w.heap.size + 2)) I Ix (pre ++ [x]) W) a' W)
    (hdone : ∀ (D : Nat) (xs : List α) (W : World), w.heap.size ≤ D → S xs → I xs W → W.heap[D]? = some (.deferred (some [])) → Q .normal { a with defers := { target := .collected D, args := #[] } :: a.defers } W)
    (hstop : ∀ (D : Nat) (c : Code) (pre : List α) (W : World), w.heap.size ≤ D → Sp pre → Ix c pre W → W.heap[D]? = some (.deferred (some [])) → c.wpIn Fence.wide n P Q { a with defers := { target := .collected D, args := #[] } :: a.defers } W)
    (hIxs : ∀ c s X, Ix c s X → w.heap.size ≤ X.heap.size) :
    (Code.rangeFunc g ps assign body).wpIn Fence.wide n P Q a w := by
  refine wpIn_rangeFunc fun fn hfn => ?_
  let rc : LoopState → Option Code → Obj := fun st pe => .loop { state := st, pending := pe, fn, tmps := a.tmps, params := ps, assign, body, defers := w.heap.size }
  let Bk : Obj → World → Prop := fun r W => W.heap[w.heap.size + 1]? = some r ∧ W.heap[w.heap.size]? = some (.deferred (some []))
  have T0 : Turn w.heap.size w ((w.alloc (.deferred (some []))).alloc (rc .ready none)) := Turn.of (((Below.refl _ w).alloc (Nat.le_refl _) _).alloc (by simp) _) (Nat.le_refl _)
  have k0 : Bk (rc .ready none) ((w.alloc (.deferred (some []))).alloc (rc .ready none)) := by
    constructor
    · have := World.alloc_heap_new (w.alloc (.deferred (some []))) (rc .ready none); rwa [World.size_alloc] at this
    · exact (Below.heap_alloc _ _ _ (by simp)).trans (World.alloc_heap_new w _)
  have hsz : ((w.alloc (.deferred (some []))).alloc (rc .ready none)).heap.size = w.heap.size + 2 := by simp
  obtain ⟨W1, hW1⟩ : ∃ W1, W1 = ((w.alloc (.deferred (some []))).alloc (rc .ready none)) := ⟨_, rfl⟩
  rw [← hW1] at T0 k0 hsz
  refine ⟨w.heap.size + 1, [{ target := .collected w.heap.size, args := #[] }], W1, { target := .fn (.func gf) lb, args := #[.func (.yield (w.heap.size + 1)) #[] #[]] }, W1, gf, #[.func (.yield (w.heap.size + 1)) #[] #[]] ++ lb, W1, ?_, ?_, fun _ _ => trivial, ?_, fun h => (by cases h), ?_⟩
  · rw [hW1]; exact run_enterLoop_outer _ _ _ _ _
  · simp only [resolve, hg]
    simp [go_sem]
  · simp [invoke, go_sem, eg]
  have keepB : ∀ (r : Obj) (X Y : World), Bk r X → Turn (w.heap.size + 2) X Y → Bk r Y := fun r X Y h t => ⟨(t.below.block _ (by omega)).trans h.1, (t.below.block _ (by omega)).trans h.2⟩
  have putB : ∀ (r r' : Obj) (X : World), Bk r X → Bk r' (X.putObj (w.heap.size + 1) r') := fun r r' X h => ⟨World.putObj_heap_same (Array.getElem?_eq_some_iff.1 h.1).1, (World.putObj_heap_other (by omega)).trans h.2⟩
  have putT : ∀ (st : LoopState) (pe : Option Code) (r' : Obj) (X : World), w.heap.size ≤ X.heap.size → Bk (rc st pe) X → Turn w.heap.size X (X.putObj (w.heap.size + 1) r') := fun st pe r' X hX h => Turn.put r' hX (by omega) h.1 rfl
  have keepF : ∀ (r : Obj) (X Y : World), r.isCells = false → Bk r X → KeepsFrom w.heap.size X Y → Bk r Y := fun r X Y hc h k => ⟨k.same _ _ (by omega) h.1 hc, k.same _ _ (Nat.le_refl _) h.2 rfl⟩
  refine CallsIn.mono (hseq (w.heap.size + 1) (n - 1) (fun pre W => I pre W ∧ w.heap.size + 2 ≤ W.heap.size ∧ Bk (rc .ready none) W) (fun pre W => ∃ c, Ix c pre W ∧ Bk (rc .done (some c)) W) _ T0 (fun s X h => by rw [hsz]; exact h.2.1)
    (fun s X Y hX h t => ⟨hI s X Y (hIs s X h.1) h.1 (t.mono (by rw [hsz]; omega)), Nat.le_trans h.2.1 t.below.size, keepB _ X Y h.2.2 (by rw [hsz] at t; exact t)⟩)
    (fun s X Y hX ⟨c, h1, h2⟩ t => ⟨c, hIx c s X Y (by rw [hsz] at hX; omega) h1 (t.mono (by rw [hsz]; omega)), keepB _ X Y h2 (by rw [hsz] at t; exact t)⟩)
    ?_ ⟨hI [] w _ (Nat.le_refl _) h0 T0, by rw [hsz]; omega, k0⟩) ?_
  · rw [hsz]
    rintro m pre x W ⟨hi, hsW, hb⟩ hgd
    refine ⟨fn, _, assign, body, run_yield hb.1 (hps x), ?_⟩
    refine roundIn_anyDepth (roundIn_of_wpIn hfn (hassign _ pre x W _ hi hsW hgd ?_))
    intro a' Wa kf kp hia hax
    have hba := keepF _ _ _ rfl hb kf
    have hsa : w.heap.size ≤ Wa.heap.size := hIs _ _ hia
    refine ⟨_, run_beginRound hba.1 rfl, ?_⟩
    have t1 := putT _ _ (rc .busy none) Wa hsa hba
    have hb1 := putB _ (rc .busy none) Wa hba
    have hi1 := hI pre _ _ hsa hia t1
    refine wpIn_mono (hbody _ pre x a' _ hi1 (hAx pre x a' () _ _ hsa hax t1)) ?_
    have fin : ∀ (jump : Option Code) (W3 : World), Bk (rc .busy none) W3 → (Instr.endRound (w.heap.size + 1) jump).run P W3 = .ok (.bool jump.isNone) (W3.putObj (w.heap.size + 1) (rc (if jump.isNone then .ready else .done) jump)) := fun jump W3 h => run_endRound jump h.1
    have out : ∀ (c : Code) (W3 : World), KeepsFrom w.heap.size (Wa.putObj (w.heap.size + 1) (rc .busy none)) W3 ∧ Ix c (pre ++ [x]) W3 → ∃ v w', (Instr.endRound (w.heap.size + 1) (some c)).run P W3 = .ok v w' ∧ ((Ending.returned v = .returned (.bool true) ∧ (I (pre ++ [x]) w' ∧ w.heap.size + 2 ≤ w'.heap.size ∧ Bk (rc .ready none) w') ∧ Kp (w.heap.size + 2) W w') ∨ (Ending.returned v = .returned (.bool false) ∧ (∃ c, Ix c (pre ++ [x]) w' ∧ Bk (rc .done (some c)) w') ∧ Oth (w.heap.size + 2) W w')) := fun c W3 h => by
      have hb3 := keepF _ _ _ rfl hb1 h.1
      refine ⟨_, _, fin (some c) W3 hb3, .inr ⟨rfl, ⟨c, ?_, putB _ _ _ hb3⟩, (Oth.from kf (by omega)).trans ((Oth.put _ (by omega)).trans ((Oth.from h.1 (by omega)).trans (Oth.put _ (by omega))))⟩⟩
      exact hIx c _ _ _ (hIxs c _ _ h.2) h.2 (putT _ _ _ _ (hIxs c _ _ h.2) hb3)
    rintro e a3 W3 hp
    cases e with
    | normal =>
      obtain ⟨k3, kp3, hi3⟩ := hp
      have hb3 := keepF _ _ _ rfl hb1 k3
      have hs3 := hIs _ _ hi3
      have t3 := putT _ _ (rc .ready none) W3 hs3 hb3
      refine ⟨_, _, fin none W3 hb3, .inl ⟨rfl, ⟨hI _ _ _ hs3 hi3 t3, ?_, putB _ _ _ hb3⟩, hKt kp (hKt (hKt (hKb _ _ _ hba.1 rfl) kp3) (hKb _ _ _ hb3.1 rfl))⟩⟩
      exact (Array.getElem?_eq_some_iff.1 (putB _ (rc .ready none) _ hb3).1).1
    | ret => exact out .ret W3 hp
    | exit id => exact out (.exit id) W3 hp
    | goto t => exact out (.goto t) W3 hp
    | panic ch => exact hp.elim
    | outgrown => exact hp.elim
  · rintro e W2 ⟨⟨v, rfl⟩, (⟨xs, hS, hi, hs2, hb⟩ | ⟨pre, hSp, c, hi, hb⟩)⟩
    · exact ⟨none, _, run_endLoop hb.1 (by simp), hdone _ xs _ (Nat.le_refl _) hS (hI _ _ _ (hIs _ _ hi) hi (putT _ _ _ _ (hIs _ _ hi) hb)) ((World.putObj_heap_other (by omega)).trans hb.2)⟩
    · exact ⟨some c, _, run_endLoop hb.1 (by simp), hstop _ c pre _ (Nat.le_refl _) hSp (hIx c _ _ _ (hIxs c _ _ hi) hi (putT _ _ _ _ (hIxs c _ _ hi) hb)) ((World.putObj_heap_other (by omega)).trans hb.2)⟩
end Go.Proofs.Ytnjopfdeapclhaa

namespace Go.Proofs.Ytnjopfdeapclhaa
open Go.RowKit Go.Shelf
set_option linter.unusedVariables false

/-- An iterator, whose rounds are told what they are handed. -/
def SeqO {α : Type} (P : Program) (gf : Nat) (lb : Array Value) (encs : α → Array Value) (Gd : Nat → List α → α → World → World → Prop) (Kp : Nat → World → World → Prop) (S Sp : List α → Prop) (w : World) : Prop :=
  ∀ (l n : Nat) (J Jx : List α → World → Prop) (W : World), Turn w.heap.size w W → (∀ s X, J s X → W.heap.size ≤ X.heap.size) → AbT W.heap.size J → AbT W.heap.size Jx →
    (∀ m pre x W0 W1, J pre W0 → J pre W1 → Gd W.heap.size pre x W0 W1 → YieldAt Fence.wide m P l (encs x) W1 fun e W' => (e = .returned (.bool true) ∧ J (pre ++ [x]) W' ∧ Kp W.heap.size W1 W') ∨ (e = .returned (.bool false) ∧ Jx (pre ++ [x]) W' ∧ Oth W.heap.size W1 W')) →
    J [] W → CallsIn Fence.wide n P gf (#[.func (.yield l) #[] #[]] ++ lb) W fun e W' => (∃ v, e = .returned v) ∧ ((∃ xs, S xs ∧ J xs W') ∨ (∃ pre, Sp pre ∧ Jx pre W'))

/-- A range over it: the loop's own record is hidden; every round keeps Kp and what is no cells from the loop's start on. -/
theorem range_o {α : Type} {P : Program} {g : Operand} {ps : Array Tmp} {assign body : Code} {Q : Exit → Act → World → Prop} {a : Act} {w : World} {n : Nat} {gf : Nat} {lb : Array Value}
    (hg : a.eval g = .func (.func gf) #[] lb) (eg : ∀ args w, (callFunc gf args).run P w = .ok (.enter gf args) w)
    {encs : α → Array Value} {Gd : Nat → List α → α → World → World → Prop} {Kp : Nat → World → World → Prop} {S Sp : List α → Prop} (hseq : SeqO P gf lb encs Gd Kp S Sp w)
    (hKt : ∀ {A B C : World}, Kp (w.heap.size + 2) A B → Kp (w.heap.size + 2) B C → Kp (w.heap.size + 2) A C) (hKb : ∀ (W : World) (o o' : Obj), W.heap[w.heap.size + 1]? = some o → o.isCells = false → Kp (w.heap.size + 2) W (W.putObj (w.heap.size + 1) o')) (hps : ∀ x, (encs x).size = ps.size)
    (I : List α → World → Prop) (Ix : Code → List α → World → Prop) (hIs : ∀ s X, I s X → w.heap.size ≤ X.heap.size) (hI : AbT w.heap.size I) (hIx : ∀ c, AbT w.heap.size (Ix c)) (h0 : I [] w)
    (Ax : List α → α → Act → World → Prop) (hAx : ∀ pre x a', AbT w.heap.size (fun (_ : Unit) W => Ax pre x a' W))
    (hassign : ∀ (l : Nat) (pre : List α) (x : α) (W0 W : World) (K : Act → World → Prop), I pre W0 → I pre W → w.heap.size + 2 ≤ W.heap.size → Gd (w.heap.size + 2) pre x W0 W → (∀ a' W', KeepsFrom w.heap.size W W' → Kp (w.heap.size + 2) W W' → I pre W' → Ax pre x a' W' → K a' W') →
      assign.wpIn (Fence.wide.inRound l) n P (Exit.then K (fun _ _ _ => False)) { tmps := (ps.zip (encs x)).foldl (fun t (p, v) => t.setIfInBounds p v) a.tmps, defers := [] } W)
    (hbody : ∀ (l : Nat) (pre : List α) (x : α) (a' : Act) (W : World), I pre W → Ax pre x a' W → body.wpIn (Fence.wide.inRound l) n P (ownPostG w.heap.size (Kp (w.heap.size + 2)) I Ix (pre ++ [x]) W) a' W)
    (hdone : ∀ (D : Nat) (xs : List α) (W : World), w.heap.size ≤ D → S xs → I xs W → W.heap[D]? = some (.deferred (some [])) → Q .normal { a with defers := { target := .collected D, args := #[] } :: a.defers } W)
    (hstop : ∀ (D : Nat) (c : Code) (pre : List α) (W : World), w.heap.size ≤ D → Sp pre → Ix c pre W → W.heap[D]? = some (.deferred (some [])) → c.wpIn Fence.wide n P Q { a with defers := { target := .collected D, args := #[] } :: a.defers } W)
    (hIxs : ∀ c s X, Ix c s X → w.heap.size ≤ X.heap.size) :
    (Code.rangeFunc g ps assign body).wpIn Fence.wide n P Q a w := by
  refine wpIn_rangeFunc fun fn hfn => ?_
  let rc : LoopState → Option Code → Obj := fun st pe => .loop { state := st, pending := pe, fn, tmps := a.tmps, params := ps, assign, body, defers := w.heap.size }
  let Bk : Obj → World → Prop := fun r W => W.heap[w.heap.size + 1]? = some r ∧ W.heap[w.heap.size]? = some (.deferred (some []))
  have T0 : Turn w.heap.size w ((w.alloc (.deferred (some []))).alloc (rc .ready none)) := Turn.of (((Below.refl _ w).alloc (Nat.le_refl _) _).alloc (by simp) _) (Nat.le_refl _)
  have k0 : Bk (rc .ready none) ((w.alloc (.deferred (some []))).alloc (rc .ready none)) := by
    constructor
    · have := World.alloc_heap_new (w.alloc (.deferred (some []))) (rc .ready none); rwa [World.size_alloc] at this
    · exact (Below.heap_alloc _ _ _ (by simp)).trans (World.alloc_heap_new w _)
  have hsz : ((w.alloc (.deferred (some []))).alloc (rc .ready none)).heap.size = w.heap.size + 2 := by simp
  obtain ⟨W1, hW1⟩ : ∃ W1, W1 = ((w.alloc (.deferred (some []))).alloc (rc .ready none)) := ⟨_, rfl⟩
  rw [← hW1] at T0 k0 hsz
  refine ⟨w.heap.size + 1, [{ target := .collected w.heap.size, args := #[] }], W1, { target := .fn (.func gf) lb, args := #[.func (.yield (w.heap.size + 1)) #[] #[]] }, W1, gf, #[.func (.yield (w.heap.size + 1)) #[] #[]] ++ lb, W1, ?_, ?_, fun _ _ => trivial, ?_, fun h => (by cases h), ?_⟩
  · rw [hW1]; exact run_enterLoop_outer _ _ _ _ _
  · simp only [resolve, hg]
    simp [go_sem]
  · simp [invoke, go_sem, eg]
  have keepB : ∀ (r : Obj) (X Y : World), Bk r X → Turn (w.heap.size + 2) X Y → Bk r Y := fun r X Y h t => ⟨(t.below.block _ (by omega)).trans h.1, (t.below.block _ (by omega)).trans h.2⟩
  have putB : ∀ (r r' : Obj) (X : World), Bk r X → Bk r' (X.putObj (w.heap.size + 1) r') := fun r r' X h => ⟨World.putObj_heap_same (Array.getElem?_eq_some_iff.1 h.1).1, (World.putObj_heap_other (by omega)).trans h.2⟩
  have putT : ∀ (st : LoopState) (pe : Option Code) (r' : Obj) (X : World), w.heap.size ≤ X.heap.size → Bk (rc st pe) X → Turn w.heap.size X (X.putObj (w.heap.size + 1) r') := fun st pe r' X hX h => Turn.put r' hX (by omega) h.1 rfl
  have keepF : ∀ (r : Obj) (X Y : World), r.isCells = false → Bk r X → KeepsFrom w.heap.size X Y → Bk r Y := fun r X Y hc h k => ⟨k.same _ _ (by omega) h.1 hc, k.same _ _ (Nat.le_refl _) h.2 rfl⟩
  refine CallsIn.mono (hseq (w.heap.size + 1) (n - 1) (fun pre W => I pre W ∧ w.heap.size + 2 ≤ W.heap.size ∧ Bk (rc .ready none) W) (fun pre W => ∃ c, Ix c pre W ∧ Bk (rc .done (some c)) W) _ T0 (fun s X h => by rw [hsz]; exact h.2.1)
    (fun s X Y hX h t => ⟨hI s X Y (hIs s X h.1) h.1 (t.mono (by rw [hsz]; omega)), Nat.le_trans h.2.1 t.below.size, keepB _ X Y h.2.2 (by rw [hsz] at t; exact t)⟩)
    (fun s X Y hX ⟨c, h1, h2⟩ t => ⟨c, hIx c s X Y (by rw [hsz] at hX; omega) h1 (t.mono (by rw [hsz]; omega)), keepB _ X Y h2 (by rw [hsz] at t; exact t)⟩)
    ?_ ⟨hI [] w _ (Nat.le_refl _) h0 T0, by rw [hsz]; omega, k0⟩) ?_
  · rw [hsz]
    rintro m pre x W0 W ⟨hi0, _, _⟩ ⟨hi, hsW, hb⟩ hgd
    refine ⟨fn, _, assign, body, run_yield hb.1 (hps x), ?_⟩
    refine roundIn_anyDepth (roundIn_of_wpIn hfn (hassign _ pre x W0 W _ hi0 hi hsW hgd ?_))
    intro a' Wa kf kp hia hax
    have hba := keepF _ _ _ rfl hb kf
    have hsa : w.heap.size ≤ Wa.heap.size := hIs _ _ hia
    refine ⟨_, run_beginRound hba.1 rfl, ?_⟩
    have t1 := putT _ _ (rc .busy none) Wa hsa hba
    have hb1 := putB _ (rc .busy none) Wa hba
    have hi1 := hI pre _ _ hsa hia t1
    refine wpIn_mono (hbody _ pre x a' _ hi1 (hAx pre x a' () _ _ hsa hax t1)) ?_
    have fin : ∀ (jump : Option Code) (W3 : World), Bk (rc .busy none) W3 → (Instr.endRound (w.heap.size + 1) jump).run P W3 = .ok (.bool jump.isNone) (W3.putObj (w.heap.size + 1) (rc (if jump.isNone then .ready else .done) jump)) := fun jump W3 h => run_endRound jump h.1
    have out : ∀ (c : Code) (W3 : World), KeepsFrom w.heap.size (Wa.putObj (w.heap.size + 1) (rc .busy none)) W3 ∧ Ix c (pre ++ [x]) W3 → ∃ v w', (Instr.endRound (w.heap.size + 1) (some c)).run P W3 = .ok v w' ∧ ((Ending.returned v = .returned (.bool true) ∧ (I (pre ++ [x]) w' ∧ w.heap.size + 2 ≤ w'.heap.size ∧ Bk (rc .ready none) w') ∧ Kp (w.heap.size + 2) W w') ∨ (Ending.returned v = .returned (.bool false) ∧ (∃ c, Ix c (pre ++ [x]) w' ∧ Bk (rc .done (some c)) w') ∧ Oth (w.heap.size + 2) W w')) := fun c W3 h => by
      have hb3 := keepF _ _ _ rfl hb1 h.1
      refine ⟨_, _, fin (some c) W3 hb3, .inr ⟨rfl, ⟨c, ?_, putB _ _ _ hb3⟩, (Oth.from kf (by omega)).trans ((Oth.put _ (by omega)).trans ((Oth.from h.1 (by omega)).trans (Oth.put _ (by omega))))⟩⟩
      exact hIx c _ _ _ (hIxs c _ _ h.2) h.2 (putT _ _ _ _ (hIxs c _ _ h.2) hb3)
    rintro e a3 W3 hp
    cases e with
    | normal =>
      obtain ⟨k3, kp3, hi3⟩ := hp
      have hb3 := keepF _ _ _ rfl hb1 k3
      have hs3 := hIs _ _ hi3
      have t3 := putT _ _ (rc .ready none) W3 hs3 hb3
      refine ⟨_, _, fin none W3 hb3, .inl ⟨rfl, ⟨hI _ _ _ hs3 hi3 t3, ?_, putB _ _ _ hb3⟩, hKt kp (hKt (hKt (hKb _ _ _ hba.1 rfl) kp3) (hKb _ _ _ hb3.1 rfl))⟩⟩
      exact (Array.getElem?_eq_some_iff.1 (putB _ (rc .ready none) _ hb3).1).1
    | ret => exact out .ret W3 hp
    | exit id => exact out (.exit id) W3 hp
    | goto t => exact out (.goto t) W3 hp
    | panic ch => exact hp.elim
    | outgrown => exact hp.elim
  · rintro e W2 ⟨⟨v, rfl⟩, (⟨xs, hS, hi, hs2, hb⟩ | ⟨pre, hSp, c, hi, hb⟩)⟩
    · exact ⟨none, _, run_endLoop hb.1 (by simp), hdone _ xs _ (Nat.le_refl _) hS (hI _ _ _ (hIs _ _ hi) hi (putT _ _ _ _ (hIs _ _ hi) hb)) ((World.putObj_heap_other (by omega)).trans hb.2)⟩
    · exact ⟨some c, _, run_endLoop hb.1 (by simp), hstop _ c pre _ (Nat.le_refl _) hSp (hIx c _ _ _ (hIxs c _ _ hi) hi (putT _ _ _ _ (hIxs c _ _ hi) hb)) ((World.putObj_heap_other (by omega)).trans hb.2)⟩
end Go.Proofs.Ytnjopfdeapclhaa
