import Derived.Test.YtnjopfdeapclhaaJ26
import Derived.Test.YtnjopfdeapclhaaJ15
namespace Go.Proofs.Ytnjopfdeapclhaa
open Go.RowKit Go.Shelf
set_option linter.unusedVariables false
attribute [local go_sem] Oper.semAt_some

structure TurnD where
  k : Int
  a : Int
  b : Int
/-- A list of turns reads as these. -/
def RdT (w : World) (v : Value) (ts : List TurnD) : Prop := ∃ a cap, v = .slice a ts.length cap ∧ ts.length ≤ cap ∧ cap ≤ maxLen ∧ ts.length ≤ 281474976710656 ∧ (ts = [] ∨ ∃ b off, a = some ⟨b, off, none⟩ ∧ ∀ i f, ts[i]? = some f → w.cell? ⟨b, off + i * 3, none⟩ = some (.int .i64 f.k) ∧ w.cell? ⟨b, off + i * 3 + 1, none⟩ = some (.int .i64 f.a) ∧ w.cell? ⟨b, off + i * 3 + 2, none⟩ = some (.int .i64 f.b))
theorem RdT.later {w w' : World} {v : Value} {fs : List TurnD} (h : RdT w v fs) (hb : Below w.heap.size w w') : RdT w' v fs := by
  obtain ⟨a, cap, h1, h2, h3, h4, h5⟩ := h
  refine ⟨a, cap, h1, h2, h3, h4, ?_⟩
  rcases h5 with h5 | ⟨b, off, rfl, hc⟩
  · exact .inl h5
  · refine .inr ⟨b, off, rfl, fun i f hf => ?_⟩
    obtain ⟨c0, c1, c2⟩ := hc i f hf
    exact ⟨by rw [hb.cell (p := ⟨b, off + i * 3, none⟩) (World.block_lt_of_cell? w _ c0)]; exact c0, by rw [hb.cell (p := ⟨b, off + i * 3 + 1, none⟩) (World.block_lt_of_cell? w _ c1)]; exact c1, by rw [hb.cell (p := ⟨b, off + i * 3 + 2, none⟩) (World.block_lt_of_cell? w _ c2)]; exact c2⟩

/-- Marks that are left behind: each is a block of its own, and holds no call. -/
def mkD (D : Nat) : Deferred := { target := .collected D, args := #[] }
def Marks (w : World) (B : Nat) (Ds : List Nat) : Prop := Ds.Nodup ∧ ∀ D ∈ Ds, B ≤ D ∧ w.heap[D]? = some (.deferred (some []))
/-- Nothing but such blocks has turned. -/
structure Shut (B : Nat) (w w' : World) : Prop where
  below : Below B w w'
  cells : ∀ (i : Nat) (o : Obj), w.heap[i]? = some o → o.isCells = true → w'.heap[i]? = some o
theorem leaves_marks {fn : Func} {tmps : Array Value} {R : Ending → World → Prop} {n B : Nat} : ∀ (Ds : List Nat) (w : World), B ≤ w.heap.size → Marks w B Ds →
    (∀ w', Shut B w w' → LeavesIn Fence.wide n Try.prog fn tmps R [] .returning w') → LeavesInM Fence.wide n Try.prog fn tmps R (Ds.map mkD) .returning w
  | [], w, _, _, h => h w ⟨Below.refl _ _, fun _ _ h _ => h⟩
  | D :: Ds, w, hB, ⟨hnd, hm⟩, h => by
    have hD := hm D (by simp)
    have hlt := (Array.getElem?_eq_some_iff.1 hD.2).1
    refine ⟨by simp, .inl ⟨D, _, rfl, run_takeDeferred hD.2, ?_⟩⟩
    refine leaves_marks Ds _ (by simpa using hB) ⟨(List.nodup_cons.1 hnd).2, fun E hE => ?_⟩ fun w' hs => h w' ?_
    · have := hm E (by simp [hE])
      refine ⟨this.1, ?_⟩
      rw [World.putObj_heap_other (fun e => (List.nodup_cons.1 hnd).1 (by rw [← e]; exact hE))]
      exact this.2
    · have b0 : Below B w (w.putObj D (.deferred none)) := ⟨rfl, rfl, rfl, by simp, fun k hk => World.putObj_heap_other (by omega)⟩
      refine ⟨b0.trans hs.below, fun i o hi ho => hs.cells i o ?_ ho⟩
      rw [World.putObj_heap_other (fun e => by subst e; rw [hi] at hD; have := hD.2; cases this; cases ho)]
      exact hi

theorem Am.cellsI {w X : World} {tB rB gr nr cr gq nq cq gv nv cv iB fB qB xB B : Nat} {F x0 D : EntD} {L R : List EntD} {rv : Value} (h : Am w tB rB gr nr cr gq nq cq gv nv cv iB fB qB xB B F x0 X L R rv D) : X.cell? ⟨iB, 0, none⟩ = some (.slice (some ⟨gr, 0, none⟩) nr cr) ∧ X.cell? ⟨iB, 1, none⟩ = some (.int .i64 D.fam) ∧ X.cell? ⟨iB, 2, none⟩ = some (.slice (some ⟨gq, 0, none⟩) nq cq) ∧ X.cell? ⟨iB, 3, none⟩ = some (.int .i64 D.ts) ∧ X.cell? ⟨iB, 4, none⟩ = some (.int .i64 D.seq) ∧ X.cell? ⟨iB, 5, none⟩ = some (.int .i64 D.kind) ∧ X.cell? ⟨iB, 6, none⟩ = some (.slice (some ⟨gv, 0, none⟩) nv cv) := by
  refine ⟨by rw [← h.vr]; exact h.ib.vr, h.ib.fam, by rw [← h.vq]; exact h.ib.vq, h.ib.ts, h.ib.seq, h.ib.kind, by rw [← h.vv]; exact h.ib.vv⟩
theorem Am.cellsD {w X : World} {tB rB gr nr cr gq nq cq gv nv cv iB fB qB xB B : Nat} {F x0 D : EntD} {L R : List EntD} {rv : Value} (h : Am w tB rB gr nr cr gq nq cq gv nv cv iB fB qB xB B F x0 X L R rv D) : D.cells = #[.slice (some ⟨gr, 0, none⟩) nr cr, .int .i64 D.fam, .slice (some ⟨gq, 0, none⟩) nq cq, .int .i64 D.ts, .int .i64 D.seq, .int .i64 D.kind, .slice (some ⟨gv, 0, none⟩) nv cv] := by
  unfold EntD.cells; rw [h.vr, h.vq, h.vv]
theorem Am.ok {w X : World} {tB rB gr nr cr gq nq cq gv nv cv iB fB qB xB B : Nat} {F x0 D : EntD} {L R : List EntD} {rv : Value} (h : Am w tB rB gr nr cr gq nq cq gv nv cv iB fB qB xB B F x0 X L R rv D) : EntD.Ok X D := h.lD.ok h.fD
theorem RBx.set1 {w : World} {b : Nat} {v : Value} {f : Bool} (h : RBx w b v f) (g : Bool) : RBx (w.setCell ⟨b, 1, none⟩ (.bool g)) b v g := by
  unfold RBx at *
  simp [World.setCell, Array.getElem?_modify, h]
theorem grown_set2 (w : World) (b : Nat) (u v : Value) : w.grownBy ((w.setCell ⟨b, 0, none⟩ u).setCell ⟨b, 1, none⟩ v) (some b) :=
  ⟨rfl, rfl, rfl, by simp, fun i hi hne => (Below.heap_setCell _ _ _ _ (fun e => hne (by rw [e]))).trans (Below.heap_setCell _ _ _ _ (fun e => hne (by rw [e])))⟩
theorem arr_of (T : Array Value) (n : Nat) (h : T.size = n) : T = ((List.range n).map (fun k => T.getD k undef)).toArray := by
  subst h
  apply Array.ext
  · simp
  · intro i h1 h2
    simp [h1]
theorem wpIn_frame {c : Code} {Fe : Fence} {n : Nat} {P : Program} {Q : Exit → Act → World → Prop} {T : Array Value} {ds : List Deferred} {w : World} (hT : T.size = 106)
    (h : ∀ U2 : Nat → Value, U2 14 = T.getD 14 undef → U2 84 = T.getD 84 undef → T = List.toArray ((U2 0 : Value) :: (U2 1 : Value) :: (U2 2 : Value) :: (U2 3 : Value) :: (U2 4 : Value) :: (U2 5 : Value) :: (U2 6 : Value) :: (U2 7 : Value) :: (U2 8 : Value) :: (U2 9 : Value) :: (U2 10 : Value) :: (U2 11 : Value) :: (U2 12 : Value) :: (U2 13 : Value) :: (U2 14 : Value) :: (U2 15 : Value) :: (U2 16 : Value) :: (U2 17 : Value) :: (U2 18 : Value) :: (U2 19 : Value) :: (U2 20 : Value) :: (U2 21 : Value) :: (U2 22 : Value) :: (U2 23 : Value) :: (U2 24 : Value) :: (U2 25 : Value) :: (U2 26 : Value) :: (U2 27 : Value) :: (U2 28 : Value) :: (U2 29 : Value) :: (U2 30 : Value) :: (U2 31 : Value) :: (U2 32 : Value) :: (U2 33 : Value) :: (U2 34 : Value) :: (U2 35 : Value) :: (U2 36 : Value) :: (U2 37 : Value) :: (U2 38 : Value) :: (U2 39 : Value) :: (U2 40 : Value) :: (U2 41 : Value) :: (U2 42 : Value) :: (U2 43 : Value) :: (U2 44 : Value) :: (U2 45 : Value) :: (U2 46 : Value) :: (U2 47 : Value) :: (U2 48 : Value) :: (U2 49 : Value) :: (U2 50 : Value) :: (U2 51 : Value) :: (U2 52 : Value) :: (U2 53 : Value) :: (U2 54 : Value) :: (U2 55 : Value) :: (U2 56 : Value) :: (U2 57 : Value) :: (U2 58 : Value) :: (U2 59 : Value) :: (U2 60 : Value) :: (U2 61 : Value) :: (U2 62 : Value) :: (U2 63 : Value) :: (U2 64 : Value) :: (U2 65 : Value) :: (U2 66 : Value) :: (U2 67 : Value) :: (U2 68 : Value) :: (U2 69 : Value) :: (U2 70 : Value) :: (U2 71 : Value) :: (U2 72 : Value) :: (U2 73 : Value) :: (U2 74 : Value) :: (U2 75 : Value) :: (U2 76 : Value) :: (U2 77 : Value) :: (U2 78 : Value) :: (U2 79 : Value) :: (U2 80 : Value) :: (U2 81 : Value) :: (U2 82 : Value) :: (U2 83 : Value) :: (U2 84 : Value) :: (U2 85 : Value) :: (U2 86 : Value) :: (U2 87 : Value) :: (U2 88 : Value) :: (U2 89 : Value) :: (U2 90 : Value) :: (U2 91 : Value) :: (U2 92 : Value) :: (U2 93 : Value) :: (U2 94 : Value) :: (U2 95 : Value) :: (U2 96 : Value) :: (U2 97 : Value) :: (U2 98 : Value) :: (U2 99 : Value) :: (U2 100 : Value) :: (U2 101 : Value) :: (U2 102 : Value) :: (U2 103 : Value) :: (U2 104 : Value) :: (U2 105 : Value) :: []) → c.wpIn Fe n P Q ⟨List.toArray ((U2 0 : Value) :: (U2 1 : Value) :: (U2 2 : Value) :: (U2 3 : Value) :: (U2 4 : Value) :: (U2 5 : Value) :: (U2 6 : Value) :: (U2 7 : Value) :: (U2 8 : Value) :: (U2 9 : Value) :: (U2 10 : Value) :: (U2 11 : Value) :: (U2 12 : Value) :: (U2 13 : Value) :: (U2 14 : Value) :: (U2 15 : Value) :: (U2 16 : Value) :: (U2 17 : Value) :: (U2 18 : Value) :: (U2 19 : Value) :: (U2 20 : Value) :: (U2 21 : Value) :: (U2 22 : Value) :: (U2 23 : Value) :: (U2 24 : Value) :: (U2 25 : Value) :: (U2 26 : Value) :: (U2 27 : Value) :: (U2 28 : Value) :: (U2 29 : Value) :: (U2 30 : Value) :: (U2 31 : Value) :: (U2 32 : Value) :: (U2 33 : Value) :: (U2 34 : Value) :: (U2 35 : Value) :: (U2 36 : Value) :: (U2 37 : Value) :: (U2 38 : Value) :: (U2 39 : Value) :: (U2 40 : Value) :: (U2 41 : Value) :: (U2 42 : Value) :: (U2 43 : Value) :: (U2 44 : Value) :: (U2 45 : Value) :: (U2 46 : Value) :: (U2 47 : Value) :: (U2 48 : Value) :: (U2 49 : Value) :: (U2 50 : Value) :: (U2 51 : Value) :: (U2 52 : Value) :: (U2 53 : Value) :: (U2 54 : Value) :: (U2 55 : Value) :: (U2 56 : Value) :: (U2 57 : Value) :: (U2 58 : Value) :: (U2 59 : Value) :: (U2 60 : Value) :: (U2 61 : Value) :: (U2 62 : Value) :: (U2 63 : Value) :: (U2 64 : Value) :: (U2 65 : Value) :: (U2 66 : Value) :: (U2 67 : Value) :: (U2 68 : Value) :: (U2 69 : Value) :: (U2 70 : Value) :: (U2 71 : Value) :: (U2 72 : Value) :: (U2 73 : Value) :: (U2 74 : Value) :: (U2 75 : Value) :: (U2 76 : Value) :: (U2 77 : Value) :: (U2 78 : Value) :: (U2 79 : Value) :: (U2 80 : Value) :: (U2 81 : Value) :: (U2 82 : Value) :: (U2 83 : Value) :: (U2 84 : Value) :: (U2 85 : Value) :: (U2 86 : Value) :: (U2 87 : Value) :: (U2 88 : Value) :: (U2 89 : Value) :: (U2 90 : Value) :: (U2 91 : Value) :: (U2 92 : Value) :: (U2 93 : Value) :: (U2 94 : Value) :: (U2 95 : Value) :: (U2 96 : Value) :: (U2 97 : Value) :: (U2 98 : Value) :: (U2 99 : Value) :: (U2 100 : Value) :: (U2 101 : Value) :: (U2 102 : Value) :: (U2 103 : Value) :: (U2 104 : Value) :: (U2 105 : Value) :: []), ds⟩ w) : c.wpIn Fe n P Q ⟨T, ds⟩ w := by
  have e : T = _ := arr_of T 106 hT
  have h2 := h (fun k => T.getD k undef) rfl rfl e
  have e2 : (⟨T, ds⟩ : Act) = ⟨_, ds⟩ := congrArg (fun t => (⟨t, ds⟩ : Act)) e
  rw [e2]
  exact h2
/-- Marks that stand. -/
def MkK (B : Nat) (Ds : List Nat) (X : World) : Prop := ∀ Z ∈ Ds, B ≤ Z ∧ X.heap[Z]? = some (.deferred (some []))
theorem MkK.far {B : Nat} {Ds : List Nat} {X Y : World} {s : Option Nat} (h : MkK B Ds X) (k : X.grownBy Y s) (hs : ∀ g, s = some g → g < B) : MkK B Ds Y := fun Z hZ =>
  ⟨(h Z hZ).1, (k.block Z (Array.getElem?_eq_some_iff.1 (h Z hZ).2).1 (fun e => by have := hs Z e.symm; have := (h Z hZ).1; omega)).trans (h Z hZ).2⟩
theorem MkK.later {B : Nat} {Ds : List Nat} {X Y : World} (h : MkK B Ds X) (k : Below X.heap.size X Y) : MkK B Ds Y := fun Z hZ => ⟨(h Z hZ).1, (k.block Z (Array.getElem?_eq_some_iff.1 (h Z hZ).2).1).trans (h Z hZ).2⟩
/-- What stands ahead of each round. -/
def AgI (w : World) (e D F x0 : EntD) (ta : Option Addr) (N tc tB rB gr nr cr gq nq cq gv nv cv iB fB qB xB B gr' nr' cr' gq' nq' cq' gv' nv' cv' : Nat) (a' : Act) (X : World) : Prop := ∃ (i : Nat) (L R : List EntD) (rv : Value) (E : EntD) (Ds : List Nat), Am w tB rB gr nr cr gq nq cq gv nv cv iB fB qB xB B F x0 X L R rv E ∧ Sm R L ∧ L.length ≤ i ∧ i ≤ 31 ∧ i ≤ N + 1 ∧ Marks X B Ds ∧ (a'.tmps.size = 106 ∧ a'.tmps.getD 0 undef = .agg #[e.vr, .int .i64 e.fam, e.vq, .int .i64 e.ts, .int .i64 e.seq, .int .i64 e.kind, e.vv] ∧ a'.tmps.getD 1 undef = .slice ta N tc ∧ a'.tmps.getD 2 undef = .pointer (some ⟨w.heap.size, 0, none⟩) ∧ a'.tmps.getD 3 undef = undef ∧ a'.tmps.getD 4 undef = .bool false ∧ a'.tmps.getD 5 undef = .pointer (some ⟨tB, 0, none⟩) ∧ a'.tmps.getD 6 undef = .pointer (some ⟨rB, 0, none⟩) ∧ a'.tmps.getD 7 undef = .pointer (some ⟨iB, 0, none⟩) ∧ a'.tmps.getD 8 undef = .pointer (some ⟨fB, 0, none⟩) ∧ a'.tmps.getD 9 undef = .func (.func 50) #[] #[.pointer (some ⟨qB, 0, none⟩), .pointer (some ⟨xB, 0, none⟩)] ∧ a'.tmps.getD 10 undef = .int .i64 (i : Int) ∧ a'.tmps.getD 15 undef = undef ∧ a'.tmps.getD 16 undef = .pointer (some ⟨tB, 0, none⟩) ∧ a'.tmps.getD 17 undef = .pointer (some ⟨tB, 0, none⟩) ∧ a'.tmps.getD 18 undef = .bool false ∧ a'.tmps.getD 19 undef = .bool false ∧ a'.tmps.getD 20 undef = .bool true ∧ a'.tmps.getD 21 undef = .bool false ∧ a'.tmps.getD 22 undef = .bool false ∧ a'.tmps.getD 23 undef = .agg #[.slice none 0 0, .bool false] ∧ a'.tmps.getD 24 undef = .agg #[e.vr, .int .i64 e.fam, e.vq, .int .i64 e.ts, .int .i64 e.seq, .int .i64 e.kind, e.vv] ∧ a'.tmps.getD 25 undef = .agg D.cells ∧ a'.tmps.getD 26 undef = .agg #[e.vr, .int .i64 e.fam, e.vq, .int .i64 e.ts, .int .i64 e.seq, .int .i64 e.kind, e.vv] ∧ a'.tmps.getD 27 undef = .agg #[.slice (some ⟨gr', 0, none⟩) nr' cr', .int .i64 F.fam, .slice (some ⟨gq', 0, none⟩) nq' cq', .int .i64 F.ts, .int .i64 F.seq, .int .i64 F.kind, .slice (some ⟨gv', 0, none⟩) nv' cv'] ∧ a'.tmps.getD 28 undef = .pointer (some ⟨tB, 0, none⟩) ∧ a'.tmps.getD 29 undef = .agg D.cells ∧ a'.tmps.getD 30 undef = .func (.func 50) #[] #[.pointer (some ⟨qB, 0, none⟩), .pointer (some ⟨xB, 0, none⟩)]) ∧ a'.defers = Ds.map mkD
theorem Laid.form0 {w : World} {B : Nat} {u : Value} {bs : List Nat} (h : Laid w B u bs) : ∃ g n c, u = .slice (some ⟨g, 0, none⟩) n c := by
  obtain ⟨g, c, h1, _⟩ := h
  exact ⟨_, _, _, h1⟩

set_option maxRecDepth 100000 in
set_option maxHeartbeats 4000000 in
theorem memAgain_walk {w : World} {e : EntD} {tv : Value} {ts : List TurnD} (he : EntD.Ok w e) (ht : RdT w tv ts) :
    Calls Try.prog 6 #[.agg e.cells, tv] w fun z w' => z = .returned (.bool true) ∧ Below w.heap.size w w' := by
  have HT := Lib.hid ht
  obtain ⟨ta, tc, rfl, ht1, ht2, ht3, -⟩ := ht
  obtain ⟨N, hN⟩ : ∃ N, N = ts.length := ⟨_, rfl⟩
  rw [← hN] at HT ht1 ht3 ⊢
  have HN := Lib.hid hN
  clear hN
  have A0 := (Below.refl w.heap.size w).alloc (Nat.le_refl _) (.cells e.cells 30)
  have eb0 := EBox.new w e
  obtain ⟨W0, hW0⟩ : ∃ W0, W0 = w.alloc (.cells e.cells 30) := ⟨_, rfl⟩
  have sz0 : W0.heap.size = w.heap.size + 1 := by rw [hW0]; simp
  rw [← hW0] at A0 eb0
  have HW0 := Lib.hid hW0
  unfold EntD.cells at HW0
  clear hW0
  refine (callsIn_wide (n := 9)).1 ?_
  refine callsIn_of_wp_marks Try.func6 rfl trivial ?_ rfl
  simp only [Try.ntmps6, List.size_toArray, List.length_cons, List.length_nil, Nat.reduceAdd, Nat.reduceSub, Array.replicate_succ, Array.replicate_zero, List.push_toArray, List.append_toArray, List.nil_append, List.cons_append]
  refine wpIn_wide.2 ?_
  have HE := Lib.hid he
  clear he
  unfold EntD.cells
  go_wp2_with fail
  rw [← HW0.out]
  clear HW0
  obtain ⟨B0, hB0⟩ : ∃ B0, B0 = w.heap.size := ⟨_, rfl⟩
  refine (new_any _).mono ?_
  rintro z W1 ⟨rfl, tb1, s1, hb1⟩
  have eb1 := eb0.later hb1
  have A1 := A0.trans (hb1.mono A0.size)
  obtain ⟨tB, htB⟩ : ∃ tB, tB = W0.heap.size := ⟨_, rfl⟩
  rw [← htB] at tb1 s1 ⊢
  have HTB : Hid (tB = w.heap.size + 1) := htB.trans sz0
  clear htB sz0
  go_wp2_with fail
  refine (told8_any _).mono ?_
  rintro z W2 ⟨rfl, hb2⟩
  have HS2 : Hid (tB + 1 ≤ W2.heap.size) := by
    have := hb2.size
    unfold Hid; omega
  have rb3 := RBx.new W2 (.slice none 0 0) false
  have l3 := (Below.refl W2.heap.size W2).alloc (Nat.le_refl _) (.cells #[.slice none 0 0, .bool false] 44)
  have b23 := hb2.trans (l3.mono hb2.size)
  obtain ⟨W3, hW3⟩ : ∃ W3, W3 = W2.alloc (.cells #[.slice none 0 0, .bool false] 44) := ⟨_, rfl⟩
  rw [← hW3] at rb3 b23
  have HW3 := Lib.hid hW3
  have HW3s := Lib.hid hW3
  have eb3 := eb1.later b23
  have tb3 : TBox W3 tB none 0 0 false := tb1.later b23
  have A3 := A1.trans (b23.mono A1.size)
  have HEB := Lib.hid eb3
  obtain ⟨d0, d1, d2, d3, d4, d5, d6⟩ := (⟨eb3.vr, eb3.fam, eb3.vq, eb3.ts, eb3.seq, eb3.kind, eb3.vv⟩ : _ ∧ _ ∧ _ ∧ _ ∧ _ ∧ _ ∧ _)
  rw [hW3] at d0 d1 d2 d3 d4 d5 d6
  clear hW3 l3 b23 eb1 eb0
  go_wp2_with fail
  rw [← HW3.out]
  clear HW3 d0 d1 d2 d3 d4 d5 d6
  obtain ⟨rB, hrB⟩ : ∃ rB, rB = W2.heap.size := ⟨_, rfl⟩
  rw [← hrB] at rb3 ⊢
  have HRB := Lib.hid hrB
  clear hrB
  refine (entry8_any (HE.out.later A3)).mono ?_
  rintro z W4 ⟨D, rfl, sD, lD, hb4, aD⟩
  obtain ⟨gr, nr, cr, er⟩ := lD.1.form0
  obtain ⟨gq, nq, cq, eq⟩ := lD.2.1.form0
  obtain ⟨gv, nv, cv, ev⟩ := lD.2.2.form0
  have hc : D.cells = #[.slice (some ⟨gr, 0, none⟩) nr cr, .int .i64 D.fam, .slice (some ⟨gq, 0, none⟩) nq cq, .int .i64 D.ts, .int .i64 D.seq, .int .i64 D.kind, .slice (some ⟨gv, 0, none⟩) nv cv] := by unfold EntD.cells; rw [er, eq, ev]
  have A4 := A3.trans (hb4.mono A3.size)
  have ib5 := EBox.new W4 D
  have l5 := (Below.refl W4.heap.size W4).alloc (Nat.le_refl _) (.cells D.cells 30)
  have b35 := hb4.trans (l5.mono hb4.size)
  obtain ⟨W5, hW5⟩ : ∃ W5, W5 = W4.alloc (.cells D.cells 30) := ⟨_, rfl⟩
  rw [← hW5] at ib5 b35 l5
  have HW5 := Lib.hid hW5
  have HW5s := Lib.hid hW5
  have A5 := A3.trans (b35.mono A3.size)
  have eb5 := eb3.later b35
  obtain ⟨d0, d1, d2, d3, d4, d5, d6⟩ := (⟨eb5.vr, eb5.fam, eb5.vq, eb5.ts, eb5.seq, eb5.kind, eb5.vv⟩ : _ ∧ _ ∧ _ ∧ _ ∧ _ ∧ _ ∧ _)
  rw [hW5, hc] at d0 d1 d2 d3 d4 d5 d6
  rw [hc] at HW5 ⊢
  clear hW5
  go_wp2_with fail
  rw [← HW5.out]
  clear HW5 d0 d1 d2 d3 d4 d5 d6
  obtain ⟨iB, hiB⟩ : ∃ iB, iB = W4.heap.size := ⟨_, rfl⟩
  rw [← hiB] at ib5 ⊢
  have HIB := Lib.hid hiB
  clear hiB
  refine (entry8_any (HE.out.later A5)).mono ?_
  rintro z W6 ⟨F, rfl, sF, lF, hb6, aF⟩
  obtain ⟨gr', nr', cr', er'⟩ := lF.1.form0
  obtain ⟨gq', nq', cq', eq'⟩ := lF.2.1.form0
  obtain ⟨gv', nv', cv', ev'⟩ := lF.2.2.form0
  have hc' : F.cells = #[.slice (some ⟨gr', 0, none⟩) nr' cr', .int .i64 F.fam, .slice (some ⟨gq', 0, none⟩) nq' cq', .int .i64 F.ts, .int .i64 F.seq, .int .i64 F.kind, .slice (some ⟨gv', 0, none⟩) nv' cv'] := by unfold EntD.cells; rw [er', eq', ev']
  have A6 := A5.trans (hb6.mono A5.size)
  have fb7 := EBox.new W6 F
  have l7 := (Below.refl W6.heap.size W6).alloc (Nat.le_refl _) (.cells F.cells 30)
  have b57 := hb6.trans (l7.mono hb6.size)
  obtain ⟨W7, hW7⟩ : ∃ W7, W7 = W6.alloc (.cells F.cells 30) := ⟨_, rfl⟩
  rw [← hW7] at fb7 b57 l7
  have HW7 := Lib.hid hW7
  have HW7s := Lib.hid hW7
  have A7 := A5.trans (b57.mono A5.size)
  have ib7 := ib5.later b57
  have lD7 := (lD.later l5).later b57
  obtain ⟨d0, d1, d2, d3, d4, d5, d6⟩ := (⟨ib7.vr, ib7.fam, ib7.vq, ib7.ts, ib7.seq, ib7.kind, ib7.vv⟩ : _ ∧ _ ∧ _ ∧ _ ∧ _ ∧ _ ∧ _)
  rw [er] at d0
  rw [eq] at d2
  rw [ev] at d6
  rw [hW7, hc'] at d0 d1 d2 d3 d4 d5 d6
  rw [hc'] at HW7 ⊢
  clear hW7
  go_wp2_with fail
  rw [← HW7.out]
  clear HW7 d0 d1 d2 d3 d4 d5 d6
  obtain ⟨fB, hfB⟩ : ∃ fB, fB = W6.heap.size := ⟨_, rfl⟩
  rw [← hfB] at fb7 ⊢
  have HFB := Lib.hid hfB
  clear hfB
  have fD : EntD.Fine D := (EntD.cut_fine HE.out).same sD
  have oD7 : EntD.Ok W7 D := lD7.ok fD
  rw [← hc]
  refine (from_ans2 (v := some ⟨tB, 0, none⟩) oD7 ⟨by have := fD.1.2; omega, by have := fD.2.1.2; omega⟩).mono ?_
  rintro z W8 ⟨xB, x0, rfl, bt8, xb8, sx0, ox0, hb8, hs8, hx1, hx2⟩
  obtain ⟨qB, hqB⟩ : ∃ qB, qB = W7.heap.size := ⟨_, rfl⟩
  rw [← hqB] at bt8 ⊢
  obtain ⟨B, hB⟩ : ∃ B, B = W8.heap.size := ⟨_, rfl⟩
  have z3 : W3.heap.size = rB + 1 := by rw [HRB.out, HW3s.out]; simp
  have z5 : W5.heap.size = iB + 1 := by rw [HIB.out, HW5s.out]; simp
  have z7 : W7.heap.size = fB + 1 := by rw [HFB.out, HW7s.out]; simp
  have gD := lD.within
  rw [z3, ← HIB.out] at gD
  have g1 := gD gr (.inl (by rw [er]; rfl))
  have g2 := gD gq (.inr (.inl (by rw [eq]; rfl)))
  have g3 := gD gv (.inr (.inr (by rw [ev]; rfl)))
  have gF := lF.within
  have hNm : Nm tB rB gr gq gv iB fB qB xB B := by
    refine ⟨by have := HS2.out; have := HRB.out; omega, by omega, by omega, ⟨fun h => ?_, fun h => ?_, fun h => ?_⟩, by have := HFB.out; have := hb6.size; omega, by omega, by omega, by omega⟩
    · exact aD.1 gr (by rw [er]; rfl) (by rw [eq, h]; rfl)
    · exact aD.2.1 gr (by rw [er]; rfl) (by rw [ev, h]; rfl)
    · exact aD.2.2 gq (by rw [eq]; rfl) (by rw [ev, h]; rfl)
  have b38 := b35.trans ((b57.trans (hb8.mono b57.size)).mono b35.size)
  have hAm : Am w tB rB gr nr cr gq nq cq gv nv cv iB fB qB xB B F x0 W8 [] [] (.slice none 0 0) D := by
    have fF : EntD.Fine F := (EntD.cut_fine HE.out).same sF
    refine ⟨⟨by have := hNm.r; have := hNm.g1; have := hNm.g2; have := hNm.f; have := hNm.q; have := hNm.x; have := hNm.B; omega, List.Pairwise.nil, by simp, by simp [pk], none, .leaf, tb3.later b38, rfl, rfl⟩, ⟨RdL.nil _, by simp, fun b e => by cases e⟩, rb3.later b38, ib7.later hb8, by rw [← z3]; exact lD7.later hb8, fD, er, eq, ev, fb7.later hb8, ?_, bt8, xb8, ox0.mono (fun i hi => by have := hNm.f; omega), A7.trans (hb8.mono A7.size), by omega, by have := HTB.out; omega⟩
    refine EOk.kept (LaidE.eok (lF.later l7) fF fun g hg => ?_) (KpG.of hb8)
    have := (gF g hg).1
    omega
  have HNm := Lib.hid hNm
  have HAm := Lib.hid hAm
  have HSx : Hid (EntD.Same x0 { F with vv := .slice none 0 0, val := [] }) := by
    obtain ⟨p1, p2, p3, p4, p5, p6, p7⟩ := sx0
    obtain ⟨q1, q2, q3, q4, q5, q6, q7⟩ := sD
    obtain ⟨r1, r2, r3, r4, r5, r6, r7⟩ := sF
    exact ⟨p1.trans (q1.trans r1.symm), p2.trans (q2.trans r2.symm), p3.trans (q3.trans r3.symm), p4.trans (q4.trans r4.symm), p5.trans (q5.trans r5.symm), p6.trans (q6.trans r6.symm), p7⟩
  clear hNm hAm sx0 sD sF lD lF aD aF gD gF g1 g2 g3 z3 z5 z7 bt8 xb8 ox0 hb8 hs8 hx1 hx2 b38 A3 A4 A5 A6 A7 b35 b57 l5 l7 lD7 ib5 ib7 fb7 fD oD7 rb3 tb3 eb3 eb5 hb4 hb6 HTB HRB HIB HFB HS2 HW3s HW5s HW7s hqB hB hc hc' er eq ev er' eq' ev' A1 A0 hb1 hb2 tb1 s1 HEB
  go_wp2_with fail
  refine wp_loop (AgI w e D F x0 ta N tc tB rB gr nr cr gq nq cq gv nv cv iB fB qB xB B gr' nr' cr' gq' nq' cq' gv' nv' cv') (fun a' _ => 32 - (intOf (a'.tmps.getD 10 undef)).toNat) ?_ ?_
  · exact ⟨0, [], [], _, D, [], HAm.out, trivial, by simp, by omega, by omega, ⟨List.nodup_nil, fun E hE => by cases hE⟩, ⟨rfl, rfl, rfl, rfl, rfl, rfl, rfl, rfl, rfl, rfl, rfl, rfl, rfl, rfl, rfl, rfl, rfl, rfl, rfl, rfl, rfl, rfl, rfl, rfl, rfl, rfl, rfl, rfl⟩, rfl⟩
  clear HAm
  rintro ⟨T, ds⟩ X ⟨i, L, R, rv, E, Ds, hAm, hSm, hLi, hi31, hiN, hMk, ⟨hT106, z0, z1, z2, z3, z4, z5, z6, z7, z8, z9, z10, z15, z16, z17, z18, z19, z20, z21, z22, z23, z24, z25, z26, z27, z28, z29, z30⟩, hds⟩
  simp only at hT106 z0 z1 z2 z3 z4 z5 z6 z7 z8 z9 z10 z15 z16 z17 z18 z19 z20 z21 z22 z23 z24 z25 z26 z27 z28 z29 z30 hds
  have hTT : T = List.toArray ((T.getD 0 undef) :: (T.getD 1 undef) :: (T.getD 2 undef) :: (T.getD 3 undef) :: (T.getD 4 undef) :: (T.getD 5 undef) :: (T.getD 6 undef) :: (T.getD 7 undef) :: (T.getD 8 undef) :: (T.getD 9 undef) :: (T.getD 10 undef) :: (T.getD 11 undef) :: (T.getD 12 undef) :: (T.getD 13 undef) :: (T.getD 14 undef) :: (T.getD 15 undef) :: (T.getD 16 undef) :: (T.getD 17 undef) :: (T.getD 18 undef) :: (T.getD 19 undef) :: (T.getD 20 undef) :: (T.getD 21 undef) :: (T.getD 22 undef) :: (T.getD 23 undef) :: (T.getD 24 undef) :: (T.getD 25 undef) :: (T.getD 26 undef) :: (T.getD 27 undef) :: (T.getD 28 undef) :: (T.getD 29 undef) :: (T.getD 30 undef) :: (T.getD 31 undef) :: (T.getD 32 undef) :: (T.getD 33 undef) :: (T.getD 34 undef) :: (T.getD 35 undef) :: (T.getD 36 undef) :: (T.getD 37 undef) :: (T.getD 38 undef) :: (T.getD 39 undef) :: (T.getD 40 undef) :: (T.getD 41 undef) :: (T.getD 42 undef) :: (T.getD 43 undef) :: (T.getD 44 undef) :: (T.getD 45 undef) :: (T.getD 46 undef) :: (T.getD 47 undef) :: (T.getD 48 undef) :: (T.getD 49 undef) :: (T.getD 50 undef) :: (T.getD 51 undef) :: (T.getD 52 undef) :: (T.getD 53 undef) :: (T.getD 54 undef) :: (T.getD 55 undef) :: (T.getD 56 undef) :: (T.getD 57 undef) :: (T.getD 58 undef) :: (T.getD 59 undef) :: (T.getD 60 undef) :: (T.getD 61 undef) :: (T.getD 62 undef) :: (T.getD 63 undef) :: (T.getD 64 undef) :: (T.getD 65 undef) :: (T.getD 66 undef) :: (T.getD 67 undef) :: (T.getD 68 undef) :: (T.getD 69 undef) :: (T.getD 70 undef) :: (T.getD 71 undef) :: (T.getD 72 undef) :: (T.getD 73 undef) :: (T.getD 74 undef) :: (T.getD 75 undef) :: (T.getD 76 undef) :: (T.getD 77 undef) :: (T.getD 78 undef) :: (T.getD 79 undef) :: (T.getD 80 undef) :: (T.getD 81 undef) :: (T.getD 82 undef) :: (T.getD 83 undef) :: (T.getD 84 undef) :: (T.getD 85 undef) :: (T.getD 86 undef) :: (T.getD 87 undef) :: (T.getD 88 undef) :: (T.getD 89 undef) :: (T.getD 90 undef) :: (T.getD 91 undef) :: (T.getD 92 undef) :: (T.getD 93 undef) :: (T.getD 94 undef) :: (T.getD 95 undef) :: (T.getD 96 undef) :: (T.getD 97 undef) :: (T.getD 98 undef) :: (T.getD 99 undef) :: (T.getD 100 undef) :: (T.getD 101 undef) :: (T.getD 102 undef) :: (T.getD 103 undef) :: (T.getD 104 undef) :: (T.getD 105 undef) :: []) := arr_of T 106 hT106
  rw [z0, z1, z2, z3, z4, z5, z6, z7, z8, z9, z10, z15, z16, z17, z18, z19, z20, z21, z22, z23, z24, z25, z26, z27, z28, z29, z30] at hTT
  obtain ⟨U, hU⟩ : ∃ U : Nat → Value, U = fun k => T.getD k undef := ⟨_, rfl⟩
  have hTU : T = List.toArray ((.agg #[e.vr, .int .i64 e.fam, e.vq, .int .i64 e.ts, .int .i64 e.seq, .int .i64 e.kind, e.vv] : Value) :: (.slice ta N tc : Value) :: (.pointer (some ⟨w.heap.size, 0, none⟩) : Value) :: (undef : Value) :: (.bool false : Value) :: (.pointer (some ⟨tB, 0, none⟩) : Value) :: (.pointer (some ⟨rB, 0, none⟩) : Value) :: (.pointer (some ⟨iB, 0, none⟩) : Value) :: (.pointer (some ⟨fB, 0, none⟩) : Value) :: (.func (.func 50) #[] #[.pointer (some ⟨qB, 0, none⟩), .pointer (some ⟨xB, 0, none⟩)] : Value) :: (.int .i64 (i : Int) : Value) :: (U 11 : Value) :: (U 12 : Value) :: (U 13 : Value) :: (U 14 : Value) :: (undef : Value) :: (.pointer (some ⟨tB, 0, none⟩) : Value) :: (.pointer (some ⟨tB, 0, none⟩) : Value) :: (.bool false : Value) :: (.bool false : Value) :: (.bool true : Value) :: (.bool false : Value) :: (.bool false : Value) :: (.agg #[.slice none 0 0, .bool false] : Value) :: (.agg #[e.vr, .int .i64 e.fam, e.vq, .int .i64 e.ts, .int .i64 e.seq, .int .i64 e.kind, e.vv] : Value) :: (.agg D.cells : Value) :: (.agg #[e.vr, .int .i64 e.fam, e.vq, .int .i64 e.ts, .int .i64 e.seq, .int .i64 e.kind, e.vv] : Value) :: (.agg #[.slice (some ⟨gr', 0, none⟩) nr' cr', .int .i64 F.fam, .slice (some ⟨gq', 0, none⟩) nq' cq', .int .i64 F.ts, .int .i64 F.seq, .int .i64 F.kind, .slice (some ⟨gv', 0, none⟩) nv' cv'] : Value) :: (.pointer (some ⟨tB, 0, none⟩) : Value) :: (.agg D.cells : Value) :: (.func (.func 50) #[] #[.pointer (some ⟨qB, 0, none⟩), .pointer (some ⟨xB, 0, none⟩)] : Value) :: (U 31 : Value) :: (U 32 : Value) :: (U 33 : Value) :: (U 34 : Value) :: (U 35 : Value) :: (U 36 : Value) :: (U 37 : Value) :: (U 38 : Value) :: (U 39 : Value) :: (U 40 : Value) :: (U 41 : Value) :: (U 42 : Value) :: (U 43 : Value) :: (U 44 : Value) :: (U 45 : Value) :: (U 46 : Value) :: (U 47 : Value) :: (U 48 : Value) :: (U 49 : Value) :: (U 50 : Value) :: (U 51 : Value) :: (U 52 : Value) :: (U 53 : Value) :: (U 54 : Value) :: (U 55 : Value) :: (U 56 : Value) :: (U 57 : Value) :: (U 58 : Value) :: (U 59 : Value) :: (U 60 : Value) :: (U 61 : Value) :: (U 62 : Value) :: (U 63 : Value) :: (U 64 : Value) :: (U 65 : Value) :: (U 66 : Value) :: (U 67 : Value) :: (U 68 : Value) :: (U 69 : Value) :: (U 70 : Value) :: (U 71 : Value) :: (U 72 : Value) :: (U 73 : Value) :: (U 74 : Value) :: (U 75 : Value) :: (U 76 : Value) :: (U 77 : Value) :: (U 78 : Value) :: (U 79 : Value) :: (U 80 : Value) :: (U 81 : Value) :: (U 82 : Value) :: (U 83 : Value) :: (U 84 : Value) :: (U 85 : Value) :: (U 86 : Value) :: (U 87 : Value) :: (U 88 : Value) :: (U 89 : Value) :: (U 90 : Value) :: (U 91 : Value) :: (U 92 : Value) :: (U 93 : Value) :: (U 94 : Value) :: (U 95 : Value) :: (U 96 : Value) :: (U 97 : Value) :: (U 98 : Value) :: (U 99 : Value) :: (U 100 : Value) :: (U 101 : Value) :: (U 102 : Value) :: (U 103 : Value) :: (U 104 : Value) :: (U 105 : Value) :: []) := by rw [hU]; exact hTT
  clear hTT hU hT106 z0 z1 z2 z3 z4 z5 z6 z7 z8 z9 z10 z15 z16 z17 z18 z19 z20 z21 z22 z23 z24 z25 z26 z27 z28 z29 z30
  subst hTU hds
  have HAm := Lib.hid hAm
  have HMk := Lib.hid hMk
  have HWB : Hid (w.heap.size ≤ B) := by
    have := hAm.tw; have n := HNm.out
    have := n.r; have := n.g1; have := n.g2; have := n.f; have := n.q; have := n.x; have := n.B
    unfold Hid; omega
  have HSm := Lib.hid hSm
  clear hAm hMk hSm
  have hi0 : (0 : Int) ≤ (i : Int) := by omega
  by_cases h1 : i ≤ N
  · have h1' : (i : Int) ≤ (N : Int) := by omega
    by_cases h2 : i ≤ 30
    · have h2' : (i : Int) ≤ 30 := by omega
      obtain ⟨d0, d1, d2, d3, d4, d5, d6⟩ := HAm.out.cellsI
      have HEn : Hid (∀ Z, Below X.heap.size X Z → Calls Try.prog 20 #[.agg #[.slice (some ⟨gr, 0, none⟩) nr cr, .int .i64 E.fam, .slice (some ⟨gq, 0, none⟩) nq cq, .int .i64 E.ts, .int .i64 E.seq, .int .i64 E.kind, .slice (some ⟨gv, 0, none⟩) nv cv]] Z fun r w' => ∃ K : EntD, r = .returned (.agg K.cells) ∧ EntD.Same K E ∧ LaidE w' Z.heap.size K ∧ Below Z.heap.size Z w') := fun Z bb => by
        rw [← HAm.out.cellsD]
        refine (entry8_any (HAm.out.ok.later bb)).mono ?_
        rintro r w' ⟨K, rfl, k1, k2, k3, k4⟩
        have fE := HAm.out.fD
        refine ⟨K, rfl, ⟨k1.1, k1.2.1, k1.2.2.1, k1.2.2.2.1, k1.2.2.2.2.1.trans (List.take_of_length_le fE.1.2), k1.2.2.2.2.2.1.trans (List.take_of_length_le fE.2.1.2), k1.2.2.2.2.2.2.trans (List.take_of_length_le fE.2.2.2)⟩, k2, k3⟩
      go_wp2_with fail
      refine Calls.mono (HEn.out _ (Below.refl _ _)) ?_
      rintro z X1 ⟨K, rfl, sK, lK, hbK⟩
      clear HEn d0 d1 d2 d3 d4 d5 d6
      obtain ⟨kr, mr, lr, fr⟩ := lK.1.form0
      obtain ⟨kq, mq, lq, fq⟩ := lK.2.1.form0
      obtain ⟨kv, mv, lv, fv⟩ := lK.2.2.form0
      have hK : K.cells = #[.slice (some ⟨kr, 0, none⟩) mr lr, .int .i64 K.fam, .slice (some ⟨kq, 0, none⟩) mq lq, .int .i64 K.ts, .int .i64 K.seq, .int .i64 K.kind, .slice (some ⟨kv, 0, none⟩) mv lv] := by unfold EntD.cells; rw [fr, fq, fv]
      have wb2 := EBox.new X1 K
      have l2 := (Below.refl X1.heap.size X1).alloc (Nat.le_refl _) (.cells K.cells 30)
      obtain ⟨X2, hX2⟩ : ∃ X2, X2 = X1.alloc (.cells K.cells 30) := ⟨_, rfl⟩
      rw [← hX2] at wb2 l2
      have HX2 := Lib.hid hX2
      have HA1 := Lib.hid (HAm.out.later HNm.out hbK)
      have HA2 := Lib.hid (HA1.out.later HNm.out l2)
      have HM2 := Lib.hid (MkK.later (MkK.later (show MkK B Ds X from HMk.out.2) hbK) l2)
      have oK : EntD.Ok X2 K := (lK.later l2).ok (HAm.out.fD.same sK)
      have r2 := HA2.out.rb
      obtain ⟨ra, rn, rc, rfl⟩ : ∃ a n c, rv = .slice a n c := by
        obtain ⟨a, c, h⟩ := HAm.out.ref.rd.slice
        exact ⟨_, _, _, h⟩
      have c0 := r2.c0
      have c1 := r2.c1
      rw [hX2, hK] at c0 c1
      have HAd : Hid (Calls Try.prog 19 #[.agg #[.slice ra rn rc, .bool false], .agg K.cells] X2 (AddP X2 (.slice ra rn rc) R K)) := refAdd_any HA2.out.ref.rd oK (by have := HSm.out.len; omega)
      rw [hK] at HX2 HAd ⊢
      obtain ⟨wB, hwB⟩ : ∃ wB, wB = X1.heap.size := ⟨_, rfl⟩
      clear hX2 r2
      go_wp2_with fail
      rw [← HX2.out, ← hwB]
      rw [← hwB] at wb2
      have HwB : Hid (wB = X1.heap.size) := hwB
      clear hwB HX2 c0 c1
      refine Calls.mono HAd.out ?_
      rintro z X3 ⟨c, lv', R', rfl, rl3, hb3, hcs⟩
      clear HAd
      have HR' : Hid (LB X3 B lv' R' ∧ ∀ L' c2, (checkS E ≠ 0 ∧ c2 = checkS E ∧ L' = L) ∨ (checkS E = 0 ∧ (∃ y ∈ L, compareS E y = 0) ∧ c2 = 80 ∧ L' = L) ∨ (c2 = 0 ∧ checkS E = 0 ∧ (¬ ∃ y ∈ L, compareS E y = 0) ∧ ∃ A B x, L = A ++ B ∧ EntD.Same x E ∧ L' = A ++ x :: B ∧ Srt (A ++ x :: B)) → c2 = c ∧ Sm R' L') := by
        refine ⟨?_, fun L' c2 hc2 => both_add HSm.out HAm.out.tab.srt sK.symm hc2 ?_⟩
        · have q2 := (HA2.out.ref.later hb3)
          rcases hcs with ⟨_, _, rfl, rfl⟩ | ⟨_, t, _, ⟨_, ⟨rfl, rfl⟩, _⟩ | ⟨_, _, x, _, rfl, ox, orow⟩⟩
          · exact q2
          · exact q2
          · refine ⟨rl3, fun y hy => ?_, fun b hb => Nat.le_trans HA2.out.size (orow b hb)⟩
            simp only [List.mem_append, List.mem_cons] at hy
            rcases hy with hy | rfl | hy
            · exact q2.ents y (List.mem_of_mem_take hy)
            · exact ox.mono (fun i hi => Nat.le_trans HA2.out.size hi)
            · exact q2.ents y (List.mem_of_mem_drop hy)
        · rcases hcs with ⟨h1, h2, h3, _⟩ | ⟨h1, t, h2, ⟨h3, ⟨h4, _⟩, h5⟩ | ⟨h3, h4, x, h5, h6, _⟩⟩
          · exact .inl ⟨h1, h2, h3⟩
          · exact .inr ⟨h1, t, h2, .inl ⟨h3, h4, h5⟩⟩
          · exact .inr ⟨h1, t, h2, .inr ⟨h3, h4, x, h5, h6⟩⟩
      obtain ⟨na, nn, nc, rfl⟩ : ∃ a n c, lv' = .slice a n c := by
        obtain ⟨a, c, h⟩ := rl3.slice
        exact ⟨_, _, _, h⟩
      have nb4 := RBx.new X3 (.slice na nn nc) false
      have l4 := (Below.refl X3.heap.size X3).alloc (Nat.le_refl _) (.cells #[.slice na nn nc, .bool false] 44)
      have b24 := hb3.trans (l4.mono hb3.size)
      obtain ⟨X4, hX4⟩ : ∃ X4, X4 = X3.alloc (.cells #[.slice na nn nc, .bool false] 44) := ⟨_, rfl⟩
      rw [← hX4] at nb4 l4 b24
      have HX4 := Lib.hid hX4
      obtain ⟨nB, hnB⟩ : ∃ nB, nB = X3.heap.size := ⟨_, rfl⟩
      have HA4 := Lib.hid (HA2.out.later HNm.out b24)
      have HM4 := Lib.hid (HM2.out.later b24)
      have wb4 := wb2.later b24
      have HRf : Hid (LB X4 B (.slice na nn nc) R') := HR'.out.1.later l4
      have lK4 := (lK.later ((Below.refl _ _).trans (l2.trans (b24.mono l2.size))))
      have oK4 : EntD.Ok X4 K := oK.later b24
      have szB : B ≤ X1.heap.size := HA1.out.size
      have szN : Hid (wB < X3.heap.size ∧ B ≤ wB) := by
        have e1 := wb2.lt'; have e2 := HwB.out; have e3 := hb3.size
        exact ⟨by omega, by omega⟩
      have HAdd : Hid (Calls Try.prog 9 #[.pointer (some ⟨tB, 0, none⟩), .agg E.cells] X4 fun z w' => z = .returned (.int .i64 (c : Int)) ∧ ∃ L', Am w tB rB gr nr cr gq nq cq gv nv cv iB fB qB xB B F x0 w' L' R (.slice ra rn rc) E ∧ Sm R' L' ∧ L'.length ≤ L.length + 1 ∧ X4.grownBy w' (some tB)) := by
        refine (add_tc HA4.out.tab HA4.out.ok (fun i hi => Nat.le_trans HA4.out.size hi) (by omega)).mono ?_
        rintro z w' ⟨c2, rfl, hap, hcs2⟩
        have hg : X4.grownBy w' (some tB) := ⟨hap.os, hap.tape, hap.output, hap.size, fun i hi hne => hap.block i hi (fun e => hne (by rw [e]))⟩
        rcases hcs2 with ⟨p1, p2, p3⟩ | ⟨p1, p2, p3, p4⟩ | ⟨p1, p2, p3, A, C, x, p4, p5, p6⟩
        · obtain ⟨rfl, q2⟩ := HR'.out.2 L c2 (.inl ⟨p1, p2, rfl⟩)
          exact ⟨rfl, L, HA4.out.add HNm.out hg p3, q2, by omega, hg⟩
        · obtain ⟨rfl, q2⟩ := HR'.out.2 L c2 (.inr (.inl ⟨p1, p2, p3, rfl⟩))
          exact ⟨rfl, L, HA4.out.add HNm.out hg p4, q2, by omega, hg⟩
        · obtain ⟨rfl, q2⟩ := HR'.out.2 (A ++ x :: C) c2 (.inr (.inr ⟨p1, p2, p3, A, C, x, p4, p5, rfl, p6.srt⟩))
          refine ⟨rfl, A ++ x :: C, HA4.out.add HNm.out hg ?_, q2, by rw [p4]; simp; omega, hg⟩
          have e : ((pk (A ++ x :: C) : Nat) : Int) = ((pk L : Nat) : Int) + ((packL E).length : Nat) := by rw [pk_ins A C p5, ← p4]; simp
          rw [e]; exact p6
      have HSt : Hid (∀ Z, Am w tB rB gr nr cr gq nq cq gv nv cv iB fB qB xB B F x0 Z [] [] (.slice none 0 0) E → True) := fun _ _ => trivial
      obtain ⟨d0, d1, d2, d3, d4, d5, d6⟩ := HA4.out.cellsI
      rw [hX4] at d0 d1 d2 d3 d4 d5 d6
      rw [HA4.out.cellsD] at HAdd
      clear hX4 hcs rl3 l4 b24 hb3 oK wb2 l2 HSt
      go_wp2_with fail
      rw [← HX4.out, ← hnB]
      rw [← hnB] at nb4
      have HnB : Hid (nB = X3.heap.size) := hnB
      clear hnB HX4 d0 d1 d2 d3 d4 d5 d6
      refine Calls.mono HAdd.out ?_
      rintro z X5 ⟨rfl, L', hA5, hSm5, hL5, hg5⟩
      have HA5 := Lib.hid hA5
      have HSm5 := Lib.hid hSm5
      have HM5 := Lib.hid (HM4.out.far hg5 (fun g e => by
        have n := HNm.out
        have := n.r; have := n.g1; have := n.g2; have := n.f; have := n.q; have := n.x; have := n.B
        cases e; omega))
      have hneW : (some tB : Option Nat) ≠ some wB := fun e => by
        have n := HNm.out; have := szN.out
        have := n.r; have := n.g1; have := n.g2; have := n.f; have := n.q; have := n.x; have := n.B
        cases e; omega
      have hneN : (some tB : Option Nat) ≠ some nB := fun e => by
        have n := HNm.out; have := szN.out; have := HnB.out
        have := n.r; have := n.g1; have := n.g2; have := n.f; have := n.q; have := n.x; have := n.B
        cases e; omega
      have wb5 := wb4.far' hg5 hneW
      have nb5 := nb4.far hg5 hneN
      have HRf5 := Lib.hid (HRf.out.far hg5 (fun g e => by
        have n := HNm.out
        have := n.r; have := n.g1; have := n.g2; have := n.f; have := n.q; have := n.x; have := n.B
        cases e; omega))
      have HoK5 : Hid (EOk (fun i => B ≤ i) X5 K) := by
        refine EOk.far (LaidE.eok lK4 (HAm.out.fD.same sK) (fun g hg => ?_)) hg5 (fun g e => ?_)
        · have := (lK.within g hg).1
          exact Nat.le_trans HAm.out.size this
        · have n := HNm.out
          have := n.r; have := n.g1; have := n.g2; have := n.f; have := n.q; have := n.x; have := n.B
          cases e; omega
      have HSta : Hid (∀ Z, Below X5.heap.size X5 Z → Calls Try.prog 28 #[.agg #[.slice (some ⟨gr, 0, none⟩) nr cr, .int .i64 E.fam, .slice (some ⟨gq, 0, none⟩) nq cq, .int .i64 E.ts, .int .i64 E.seq, .int .i64 E.kind, .slice (some ⟨gv, 0, none⟩) nv cv], .agg #[.slice (some ⟨kr, 0, none⟩) mr lr, .int .i64 K.fam, .slice (some ⟨kq, 0, none⟩) mq lq, .int .i64 K.ts, .int .i64 K.seq, .int .i64 K.kind, .slice (some ⟨kv, 0, none⟩) mv lv]] Z fun r w' => r = .returned (.bool true) ∧ Below Z.heap.size Z w') := fun Z bb => by
        rw [← HA5.out.cellsD, ← hK]
        exact stands8_any (HA5.out.lD.later bb) (HoK5.out.ok.later bb) sK.symm HA5.out.fD
      obtain ⟨d0, d1, d2, d3, d4, d5, d6⟩ := HA5.out.cellsI
      obtain ⟨k0, k1, k2, k3, k4, k5, k6⟩ := (⟨wb5.vr, wb5.fam, wb5.vq, wb5.ts, wb5.seq, wb5.kind, wb5.vv⟩ : _ ∧ _ ∧ _ ∧ _ ∧ _ ∧ _ ∧ _)
      rw [fr] at k0
      rw [fq] at k2
      rw [fv] at k6
      clear hA5 hSm5 HAdd
      go_wp2_with fail
      refine Calls.mono (HSta.out _ (Below.refl _ _)) ?_
      rintro z X6 ⟨rfl, hb6⟩
      clear HSta d0 d1 d2 d3 d4 d5 d6 k0 k1 k2 k3 k4 k5 k6
      have HA6 := Lib.hid (HA5.out.later HNm.out hb6)
      have HM6 := Lib.hid (HM5.out.later hb6)
      have wb6 := wb5.later hb6
      have nb6 := nb5.later hb6
      have HRf6 := Lib.hid (HRf5.out.later hb6)
      have HoK6 := Lib.hid (HoK5.out.kept (KpG.of hb6))
      have rb6 := HA6.out.rb
      have c0 := rb6.c0
      have c1 := rb6.c1
      have f0 := rb6.fz 0
      have f1 := rb6.fz 1
      have n0 := nb6.c0
      have n1 := nb6.c1
      have hg7 := grown_set2 X6 rB (.slice na nn nc) (.bool false)
      have rb7 := (rb6.set0 (.slice na nn nc)).set1 false
      have hneWr : (some rB : Option Nat) ≠ some wB := fun e => by
        have n := HNm.out; have := szN.out
        have := n.r; have := n.g1; have := n.g2; have := n.f; have := n.q; have := n.x; have := n.B
        cases e; omega
      have hlt : rB < B := by
        have n := HNm.out
        have := n.r; have := n.g1; have := n.g2; have := n.f; have := n.q; have := n.x; have := n.B
        omega
      have HA7 := Lib.hid (HA6.out.setR HNm.out hg7 rb7 HRf6.out)
      have HM7 := Lib.hid (HM6.out.far hg7 (fun g e => by cases e; omega))
      have wb7 := wb6.far' hg7 hneWr
      have HoK7 := Lib.hid (HoK6.out.far hg7 (fun g e => by cases e; omega))
      obtain ⟨X7, hX7⟩ : ∃ X7, X7 = (X6.setCell ⟨rB, 0, none⟩ (.slice na nn nc)).setCell ⟨rB, 1, none⟩ (.bool false) := ⟨_, rfl⟩
      rw [← hX7] at HA7 wb7 HoK7 HM7
      have HX7 := Lib.hid hX7
      obtain ⟨d0, d1, d2, d3, d4, d5, d6⟩ := HA7.out.cellsI
      obtain ⟨k0, k1, k2, k3, k4, k5, k6⟩ := (⟨wb7.vr, wb7.fam, wb7.vq, wb7.ts, wb7.seq, wb7.kind, wb7.vv⟩ : _ ∧ _ ∧ _ ∧ _ ∧ _ ∧ _ ∧ _)
      rw [fr] at k0
      rw [fq] at k2
      rw [fv] at k6
      rw [hX7] at d0 d1 d2 d3 d4 d5 d6 k0 k1 k2 k3 k4 k5 k6
      clear hX7 hg7 rb7 hb6 rb6 nb6 nb5 wb5 wb6 HRf5 HoK5 HA5 nb4 wb4 HRf oK4 lK4 HA4 HA1 HA2 hg5
      go_wp2_with fail
      rw [← HX7.out]
      clear HX7 d0 d1 d2 d3 d4 d5 d6 k0 k1 k2 k3 k4 k5 k6 c0 c1 f0 f1 n0 n1
      have HWb7 := Lib.hid wb7
      have hL30 : L'.length ≤ 40 := by omega
      have KS : Hid (∀ Z, Below X7.heap.size X7 Z → (Z.cell? ⟨iB, 0, none⟩ = some (.slice (some ⟨gr, 0, none⟩) nr cr) ∧ Z.cell? ⟨iB, 1, none⟩ = some (.int .i64 E.fam) ∧ Z.cell? ⟨iB, 2, none⟩ = some (.slice (some ⟨gq, 0, none⟩) nq cq) ∧ Z.cell? ⟨iB, 3, none⟩ = some (.int .i64 E.ts) ∧ Z.cell? ⟨iB, 4, none⟩ = some (.int .i64 E.seq) ∧ Z.cell? ⟨iB, 5, none⟩ = some (.int .i64 E.kind) ∧ Z.cell? ⟨iB, 6, none⟩ = some (.slice (some ⟨gv, 0, none⟩) nv cv)) ∧ (Z.cell? ⟨wB, 0, none⟩ = some (.slice (some ⟨kr, 0, none⟩) mr lr) ∧ Z.cell? ⟨wB, 1, none⟩ = some (.int .i64 K.fam) ∧ Z.cell? ⟨wB, 2, none⟩ = some (.slice (some ⟨kq, 0, none⟩) mq lq) ∧ Z.cell? ⟨wB, 3, none⟩ = some (.int .i64 K.ts) ∧ Z.cell? ⟨wB, 4, none⟩ = some (.int .i64 K.seq) ∧ Z.cell? ⟨wB, 5, none⟩ = some (.int .i64 K.kind) ∧ Z.cell? ⟨wB, 6, none⟩ = some (.slice (some ⟨kv, 0, none⟩) mv lv)) ∧ (Z.cell? ⟨rB, 0, none⟩ = some (.slice na nn nc) ∧ Z.cell? ⟨rB, 1, none⟩ = some (.bool false))) := fun Z b => by
        have q := HA7.out.later HNm.out b
        have q2 := HWb7.out.later b
        refine ⟨q.cellsI, ⟨by rw [← fr]; exact q2.vr, q2.fam, by rw [← fq]; exact q2.vq, q2.ts, q2.seq, q2.kind, by rw [← fv]; exact q2.vv⟩, q.rb.c0, q.rb.c1⟩
      have HF1 : Hid (∀ Z, Below X7.heap.size X7 Z → Calls Try.prog 21 #[.pointer (some ⟨tB, 0, none⟩), .agg #[.slice (some ⟨gr, 0, none⟩) nr cr, .int .i64 E.fam, .slice (some ⟨gq, 0, none⟩) nq cq, .int .i64 E.ts, .int .i64 E.seq, .int .i64 E.kind, .slice (some ⟨gv, 0, none⟩) nv cv]] Z fun z w' => ∃ v xs, z = .returned v ∧ RdL w' v xs ∧ Hid (Sm xs (L'.dropWhile (fun y => decide (compareS y E < 0)))) ∧ Below Z.heap.size Z w') := fun Z b => by
        have q := HA7.out.later HNm.out b
        rw [← q.cellsD]
        refine (fromL_any q.ok ⟨by have := q.fD.1.2; omega, by have := q.fD.2.1.2; omega⟩ q.tab (by omega)).mono ?_
        rintro z w' ⟨v, xs, rfl, o1, o2, o3, o4⟩
        refine ⟨v, xs, rfl, RdL.of o1 (fun x hx => (o3 x hx).ok) ?_, o2, o4⟩
        have := o2.len
        have := (List.dropWhile_sublist (fun y => decide (compareS y E < 0)) (l := L')).length_le
        omega
      have HF2 : Hid (∀ Z, Below X7.heap.size X7 Z → Calls Try.prog 22 #[.agg #[.slice na nn nc, .bool false], .agg #[.slice (some ⟨kr, 0, none⟩) mr lr, .int .i64 K.fam, .slice (some ⟨kq, 0, none⟩) mq lq, .int .i64 K.ts, .int .i64 K.seq, .int .i64 K.kind, .slice (some ⟨kv, 0, none⟩) mv lv]] Z fun z w' => ∃ v, z = .returned v ∧ RdL w' v (R'.dropWhile (fun y => decide (compareS y K < 0))) ∧ Below Z.heap.size Z w') := fun Z b => by
        have q := HA7.out.later HNm.out b
        rw [← hK]
        exact refFrom_any q.ref.rd (HoK7.out.ok.later b)
      have HQ1 : Hid (Sm (L'.dropWhile (fun y => decide (compareS y E < 0))) (R'.dropWhile (fun y => decide (compareS y K < 0)))) := Sm.dropW sK.symm HSm5.out.symm
      have HF4 : Hid (∀ Z, Below X7.heap.size X7 Z → Calls Try.prog 10 #[.pointer (some ⟨tB, 0, none⟩)] Z fun z w' => ∃ v xs, z = .returned v ∧ RdL w' v xs ∧ Hid (Sm xs R') ∧ Below Z.heap.size Z w') := fun Z b => by
        have q := HA7.out.later HNm.out b
        refine (rows_any q.tab (by omega)).mono ?_
        rintro z w' ⟨v, xs, rfl, o1, o2, o3, o4⟩
        refine ⟨v, xs, rfl, RdL.of o1 (fun x hx => (o3 x hx).ok) ?_, o2.trans HSm5.out.symm, o4⟩
        have := o2.len
        omega
      have HF5 : Hid (∀ Z, Below X7.heap.size X7 Z → RdL Z (.slice na nn nc) R') := fun Z b => (HA7.out.later HNm.out b).ref.rd
      obtain ⟨pkL, hpk⟩ : ∃ q, q = pk L' := ⟨_, rfl⟩
      have HPk : Hid (pkL = pk L') := hpk
      have HF6 : Hid (∀ Z, Below X7.heap.size X7 Z → Calls Try.prog 16 #[.pointer (some ⟨tB, 0, none⟩)] Z fun z w' => z = .returned (.int .i64 (pkL : Int)) ∧ Below Z.heap.size Z w') := fun Z b => by
        obtain ⟨p, T, q1, q2, q3⟩ := (HA7.out.later HNm.out b).tab.tree
        refine (tbytes_any q1).mono ?_
        rintro z w' ⟨rfl, rfl⟩
        exact ⟨by rw [hpk], Below.refl _ _⟩
      have HF7 : Hid (∀ Z, Below X7.heap.size X7 Z → Calls Try.prog 29 #[.agg #[.slice na nn nc, .bool false]] Z fun z w' => z = .returned (.int .i64 (pkL : Int)) ∧ Below Z.heap.size Z w') := fun Z b => by
        have q := HA7.out.later HNm.out b
        have := refBytes8_any (f := false) q.ref.rd (fun x hx => by
          obtain ⟨j, hj⟩ := List.getElem?_of_mem hx
          obtain ⟨y, y1, y2⟩ : ∃ y, L'[j]? = some y ∧ EntD.Same x y := by
            obtain ⟨a, b, h1, h2, h3⟩ := HSm5.out.at (List.getElem?_eq_some_iff.1 hj).1
            rw [h1] at hj; cases hj
            exact ⟨b, h2, h3⟩
          rw [checkS_same y2]
          exact q.tab.good y (List.mem_of_getElem? y1))
        rw [show pk R' = pkL from by rw [hpk]; exact pk_sm HSm5.out] at this
        exact this
      clear hpk
      have DD : Below X7.heap.size X7 X7.drew := (Below.refl _ _).drew
      go_region_held3 (fun Z => (Z.cell? ⟨iB, 0, none⟩ = some (.slice (some ⟨gr, 0, none⟩) nr cr) ∧ Z.cell? ⟨iB, 1, none⟩ = some (.int .i64 E.fam) ∧ Z.cell? ⟨iB, 2, none⟩ = some (.slice (some ⟨gq, 0, none⟩) nq cq) ∧ Z.cell? ⟨iB, 3, none⟩ = some (.int .i64 E.ts) ∧ Z.cell? ⟨iB, 4, none⟩ = some (.int .i64 E.seq) ∧ Z.cell? ⟨iB, 5, none⟩ = some (.int .i64 E.kind) ∧ Z.cell? ⟨iB, 6, none⟩ = some (.slice (some ⟨gv, 0, none⟩) nv cv)) ∧ (Z.cell? ⟨wB, 0, none⟩ = some (.slice (some ⟨kr, 0, none⟩) mr lr) ∧ Z.cell? ⟨wB, 1, none⟩ = some (.int .i64 K.fam) ∧ Z.cell? ⟨wB, 2, none⟩ = some (.slice (some ⟨kq, 0, none⟩) mq lq) ∧ Z.cell? ⟨wB, 3, none⟩ = some (.int .i64 K.ts) ∧ Z.cell? ⟨wB, 4, none⟩ = some (.int .i64 K.seq) ∧ Z.cell? ⟨wB, 5, none⟩ = some (.int .i64 K.kind) ∧ Z.cell? ⟨wB, 6, none⟩ = some (.slice (some ⟨kv, 0, none⟩) mv lv)) ∧ (Z.cell? ⟨rB, 0, none⟩ = some (.slice na nn nc) ∧ Z.cell? ⟨rB, 1, none⟩ = some (.bool false))) (exact KS.out _ DD) (first
        | (go_at_call 21; refine Calls.mono (HF1.out _ DD) ?_; rintro z1 wa ⟨v1, xs1, rfl, rd1, hs1, ha⟩; have DD := DD.trans (ha.mono DD.size))
        | (go_at_call 22; refine Calls.mono (HF2.out _ DD) ?_; rintro z2 wb ⟨v2, rfl, rd2, hb⟩; have rd1 := rd1.later hb; have DD := DD.trans (hb.mono DD.size))
        | (go_at_call_of 23 v1; refine Calls.mono (sameList_ok rd1 rd2 (hs1.out.trans HQ1.out)) ?_; rintro z3 wc ⟨rfl, hc⟩; have DD := DD.trans (hc.mono DD.size))
        | (go_at_call 10; refine Calls.mono (HF4.out _ DD) ?_; rintro z4 wd ⟨v4, xs4, rfl, rd4, hs4, hd⟩; have DD := DD.trans (hd.mono DD.size))
        | (go_at_call_of 23 v4; refine Calls.mono (sameList_ok rd4 (HF5.out _ DD) hs4.out) ?_; rintro z5 we ⟨rfl, he⟩; have DD := DD.trans (he.mono DD.size))
        | (go_at_call 16; refine Calls.mono (HF6.out _ DD) ?_; rintro z6 wf ⟨rfl, hf⟩; have DD := DD.trans (hf.mono DD.size))
        | (go_at_call 29; refine Calls.mono (HF7.out _ DD) ?_; rintro z7 wg ⟨rfl, hg⟩; have DD := DD.trans (hg.mono DD.size)))
      go_wp2_with fail
      have HAg := Lib.hid (HA7.out.later HNm.out DD)
      have HMg0 := Lib.hid (HM7.out.later DD)
      have HMg : Hid (∀ Z ∈ Ds, Z < wg.heap.size) := fun Z hZ => (Array.getElem?_eq_some_iff.1 (HMg0.out Z hZ).2).1
      have HMm : Hid (∀ Y, Below wg.heap.size wg Y → ∀ Z ∈ Ds, Y.heap[Z]? = some (.deferred (some []))) := fun Y b Z hZ => (b.block Z (HMg.out Z hZ)).trans (HMg0.out Z hZ).2
      have HLen : Hid (L'.length ≤ 40 ∧ L'.length ≤ i + 1) := ⟨hL30, by omega⟩
      obtain ⟨p, T, h1t, h2t, h3t⟩ := HAg.out.tab.tree
      have b2 := (Below.refl wg.heap.size wg).alloc (Nat.le_refl _) (.cells #[.slice none 0 0] 22)
      have x1 : Bxd (wg.alloc (.cells #[.slice none 0 0] 22)) wg.heap.size 22 (.slice none 0 0) := Bxd.new wg _ _
      obtain ⟨V, hV⟩ : ∃ V, V = wg.alloc (.cells #[.slice none 0 0] 22) := ⟨_, rfl⟩
      have s2 : V.heap.size = wg.heap.size + 1 := by rw [hV]; simp
      rw [← hV] at x1 b2 ⊢
      clear hV
      have x2 := HAg.out.qb.keep (b2.block _ HAg.out.qb.lt)
      have hxb := HAg.out.xb.later b2
      have hxo := (HAg.out.ox.kept (KpG.of b2)).mono (G' := fun _ => True) (fun _ _ => trivial)
      have hb2 := h1t.later b2
      have hT2 : IsT (fun i => B ≤ i ∧ i < wg.heap.size) V p T := h2t.lt.kept (KpG.of b2)
      have HLL : Hid (fromS x0 T = L'.dropWhile (fun y => decide (compareS y F < 0))) := by
        unfold Hid
        rw [fromS_same (y := F) (fun z => (compareS_same ⟨rfl, rfl, rfl, rfl, rfl, rfl, rfl⟩ HSx.out).trans (compareS_noval z F _ _)), fromS_drop F T (by rw [h3t]; exact HAg.out.tab.srt), h3t]
      have HLe : Hid ((fromS x0 T).length ≤ L'.length) := by
        unfold Hid
        rw [HLL.out]
        exact (List.dropWhile_sublist _).length_le
      have HLn : Hid (∀ x ∈ fromS x0 T, x.row.length ≤ 140737488355328 ∧ x.qual.length ≤ 140737488355328 ∧ x.val.length ≤ 140737488355328) := fun x hx => HAg.out.tab.lens x ((List.dropWhile_sublist _).subset (HLL.out ▸ hx))
      obtain ⟨Bl, hBl⟩ : ∃ Bl, Bl = wg.heap.size := ⟨_, rfl⟩
      rw [← hBl] at x1 ⊢
      have q1 : wg.heap.size ≤ Bl := by omega
      have q2 : Bl + 1 ≤ V.heap.size := by omega
      have szg := HAg.out.size
      have HWB2 : Hid (wg.heap.size = Bl ∧ V.heap.size = wg.heap.size + 1) := ⟨hBl.symm, s2⟩
      clear hBl s2 rd1 rd2 rd4 hs1 hs4 ha hb hc hd he hf hg KS HF1 HF2 HF4 HF5 HF6 HF7 HQ1 h1t h2t h3t DD
      refine (wpIn_wide (n := 9)).1 ?_
      refine wpIn_frame rfl (fun U2 e14 e84 eT => ?_)
      have e14' : U2 14 = .pointer (some ⟨Bl, 0, none⟩) := e14.trans rfl
      have e84' : U2 84 = .func (.func 50) #[] #[.pointer (some ⟨qB, 0, none⟩), .pointer (some ⟨xB, 0, none⟩)] := e84.trans rfl
      have HFr := Lib.hid eT.symm
      rw [e14', e84'] at HFr
      rw [e14', e84']
      clear e14 e84 eT e14' e84'
      refine range_wide (w := V) rfl (enters_of Try.func50 (by kernel_rfl) rfl) (encs := fun x : EntD => #[.agg x.cells]) (from_seq hxb hxo x2 hb2 hT2 HLn.out) (fun h k => h.trans k) (fun X o o' ho hc => KpO.put o o' (by omega) ho hc) (fun _ => rfl)
        (fun pre X => Gro wg Bl (V.heap.size + 6) pre X ∧ pre.length ≤ L'.length)
        (fun c pre X => False)
        (fun s X h => by have := h.1.size; have := h.1.below.size; omega)
        (fun s X Z hX ⟨h, hl⟩ tu => ⟨⟨by obtain ⟨v, k1, k2⟩ := h.box; exact ⟨v, k1.turn tu, ownsRow_turn k2 tu⟩, fun x hx => (h.ents x hx).keptC tu.toC, h.below.trans (tu.below.mono (by omega)), Nat.le_trans h.size (by have := tu.below.size; omega)⟩, hl⟩)
        (fun c s X Z hX h tu => h)
        ⟨⟨⟨_, x1, World.ownsRow_nil _ _ _ _⟩, by simp, b2, by omega⟩, by simp⟩
        (fun pre x a' X => ∃ Bx, V.heap.size + 6 ≤ Bx ∧ EBox X Bx x ∧ NxC (fromS x0 T) (V.heap.size + 2) pre x X ∧ a' = { tmps := List.toArray ((U2 0 : Value) :: (U2 1 : Value) :: (U2 2 : Value) :: (U2 3 : Value) :: (U2 4 : Value) :: (U2 5 : Value) :: (U2 6 : Value) :: (U2 7 : Value) :: (U2 8 : Value) :: (U2 9 : Value) :: (U2 10 : Value) :: (U2 11 : Value) :: (U2 12 : Value) :: (U2 13 : Value) :: (.pointer (some ⟨Bl, 0, none⟩) : Value) :: (.pointer (some ⟨Bx, 0, none⟩) : Value) :: (U2 16 : Value) :: (U2 17 : Value) :: (U2 18 : Value) :: (U2 19 : Value) :: (U2 20 : Value) :: (U2 21 : Value) :: (U2 22 : Value) :: (U2 23 : Value) :: (U2 24 : Value) :: (U2 25 : Value) :: (U2 26 : Value) :: (U2 27 : Value) :: (U2 28 : Value) :: (U2 29 : Value) :: (U2 30 : Value) :: (U2 31 : Value) :: (U2 32 : Value) :: (U2 33 : Value) :: (U2 34 : Value) :: (U2 35 : Value) :: (U2 36 : Value) :: (U2 37 : Value) :: (U2 38 : Value) :: (U2 39 : Value) :: (U2 40 : Value) :: (U2 41 : Value) :: (U2 42 : Value) :: (U2 43 : Value) :: (U2 44 : Value) :: (U2 45 : Value) :: (U2 46 : Value) :: (U2 47 : Value) :: (U2 48 : Value) :: (U2 49 : Value) :: (U2 50 : Value) :: (U2 51 : Value) :: (U2 52 : Value) :: (U2 53 : Value) :: (U2 54 : Value) :: (U2 55 : Value) :: (U2 56 : Value) :: (U2 57 : Value) :: (U2 58 : Value) :: (U2 59 : Value) :: (U2 60 : Value) :: (U2 61 : Value) :: (U2 62 : Value) :: (U2 63 : Value) :: (U2 64 : Value) :: (U2 65 : Value) :: (U2 66 : Value) :: (U2 67 : Value) :: (U2 68 : Value) :: (U2 69 : Value) :: (U2 70 : Value) :: (U2 71 : Value) :: (U2 72 : Value) :: (U2 73 : Value) :: (U2 74 : Value) :: (U2 75 : Value) :: (U2 76 : Value) :: (U2 77 : Value) :: (U2 78 : Value) :: (U2 79 : Value) :: (U2 80 : Value) :: (U2 81 : Value) :: (U2 82 : Value) :: (U2 83 : Value) :: (.func (.func 50) #[] #[.pointer (some ⟨qB, 0, none⟩), .pointer (some ⟨xB, 0, none⟩)] : Value) :: (.agg x.cells : Value) :: (U2 86 : Value) :: (U2 87 : Value) :: (U2 88 : Value) :: (U2 89 : Value) :: (U2 90 : Value) :: (U2 91 : Value) :: (U2 92 : Value) :: (U2 93 : Value) :: (U2 94 : Value) :: (U2 95 : Value) :: (U2 96 : Value) :: (U2 97 : Value) :: (U2 98 : Value) :: (U2 99 : Value) :: (U2 100 : Value) :: (U2 101 : Value) :: (U2 102 : Value) :: (U2 103 : Value) :: (U2 104 : Value) :: (U2 105 : Value) :: []), defers := [] })
        (fun pre x a' _ X Z hX ⟨Bx, k0, k1, k2, k3⟩ tu => ⟨Bx, k0, tu.cells _ _ k1 rfl, ⟨Nat.le_trans k2.1 tu.below.size, k2.2.1, k2.2.2.keptC tu.toC⟩, k3⟩)
        ?assign ?body ?done ?stop (fun c s X h => h.elim)
      case assign =>
        intro l' pre x X K hi hsX hgd hK
        have hsX' : V.heap.size + 6 ≤ X.heap.size := by have := hgd.1; omega
        obtain ⟨ar, nr, cr, e1⟩ := rd_slice hgd.2.2.1.1
        obtain ⟨aq, nq, cq, e2⟩ := rd_slice hgd.2.2.2.1.1
        obtain ⟨av, nv, cv, e3⟩ := rd_slice hgd.2.2.2.2.1
        have hbb := (Below.refl X.heap.size X).alloc (Nat.le_refl _) (.cells x.cells 30)
        have tu := Turn.of (B := V.heap.size) hbb (by omega)
        have HI : Hid (Gro wg Bl (V.heap.size + 6) pre _ ∧ pre.length ≤ L'.length) := (fun ⟨h, hl⟩ => ⟨⟨by obtain ⟨v, k1, k2⟩ := h.box; exact ⟨v, k1.turn tu, ownsRow_turn k2 tu⟩, fun x hx => (h.ents x hx).keptC tu.toC, h.below.trans (tu.below.mono (by omega)), Nat.le_trans h.size (by have := tu.below.size; omega)⟩, hl⟩) hi
        have HN : Hid (NxC (fromS x0 T) (V.heap.size + 2) pre x _) := ⟨Nat.le_trans hgd.1 tu.below.size, hgd.2.1, hgd.2.2.keptC tu.toC⟩
        have HT : Hid (KpO (fun i => B ≤ i ∧ i < wg.heap.size) (V.heap.size + 2) X _) := ⟨tu.toC, Oth.of hbb⟩
        have HX : Hid (EBox (X.alloc (.cells x.cells 30)) X.heap.size x) := EBox.new X _
        have hxc : x.cells = #[.slice ar nr cr, .int .i64 x.fam, .slice aq nq cq, .int .i64 x.ts, .int .i64 x.seq, .int .i64 x.kind, .slice av nv cv] := by unfold EntD.cells; rw [e1, e2, e3]
        have HXC := Lib.hid hxc
        have HK := Lib.hid hK
        rw [hxc] at HI HN HT HX ⊢
        clear hbb tu hi hgd e1 e2 e3 hxc hK
        gi_wp2
        rw [← HXC.out]
        rw [← HXC.out] at HI HN HT HX
        obtain ⟨Bx, hBx⟩ : ∃ b, b = X.heap.size := ⟨_, rfl⟩
        rw [← hBx] at HX hsX' ⊢
        exact HK.out _ _ ((KeepsOthers.alloc _ _).from _) HT.out HI.out ⟨Bx, hsX', HX.out, HN.out, rfl⟩
      case body =>
        rintro l' pre x a' X ⟨hg, hl⟩ ⟨Bx, hBx, bx, hnx, rfl⟩
        obtain ⟨v, k1, k2⟩ := hg.box
        have hX8 : V.heap.size + 6 ≤ X.heap.size := by have := hnx.1; omega
        have hlen1 : pre.length + 1 ≤ L'.length := by
          obtain ⟨q, hq1, hq2⟩ := hnx.2.1
          have e1 := hq2.len
          have e2 := hq1.length_le
          have e3 := HLe.out
          simp at e1
          omega
        obtain ⟨vr, fam, vq, ts, seq, kind, vv, row, qual, val⟩ := x
        have r1 : Rd X vr row := hnx.2.2.1.1
        have r2 : Rd X vq qual := hnx.2.2.2.1.1
        have r3 : Rd X vv val := hnx.2.2.2.2.1
        obtain ⟨ar, nr, cr, rfl⟩ := rd_slice r1
        obtain ⟨aq, nq, cq, rfl⟩ := rd_slice r2
        obtain ⟨av, nv, cv, rfl⟩ := rd_slice r3
        obtain ⟨xe, hxe⟩ : ∃ xe : EntD, xe = ⟨.slice ar nr cr, fam, .slice aq nq cq, ts, seq, kind, .slice av nv cv, row, qual, val⟩ := ⟨_, rfl⟩
        obtain ⟨i0, hi, hz0, hz1, hz2⟩ := info_parts info_ent
        have HX : Hid (EOk (fun i => V.heap.size + 6 ≤ i) X xe) := by rw [hxe]; exact hnx.2.2.mono (fun i hi => by omega)
        have HK : Hid (Bxd X Bl 22 v ∧ X.ownsRow (V.heap.size + 6) 30 7 v pre.length (evals pre)) := ⟨k1, k2⟩
        have HG : Hid (Gro wg Bl (V.heap.size + 6) pre X) := hg
        have kc := k1.cell
        have kf := k1.fz
        obtain ⟨c0, c1, c2, c3, c4, c5, c6⟩ := (⟨bx.vr, bx.fam, bx.vq, bx.ts, bx.seq, bx.kind, bx.vv⟩ : _ ∧ _ ∧ _ ∧ _ ∧ _ ∧ _ ∧ _)
        simp only at c0 c1 c2 c3 c4 c5 c6
        obtain ⟨av0, nv0, cv0, rfl⟩ : ∃ a0 n0 c0, v = .slice a0 n0 c0 := by
          rcases k2.2 with ⟨rfl, _⟩ | ⟨g, cap, cur, rfl, _⟩
          · exact ⟨_, _, _, rfl⟩
          · exact ⟨_, _, _, rfl⟩
        have hcells : ∀ j u, (EntD.cells xe).toList[j]? = some u → (X.alloc (.cells xe.cells 30)).cell? ((⟨X.heap.size, 0, none⟩ : Addr).add j) = some u := fun j u hu => by
          have e : (⟨X.heap.size, 0, none⟩ : Addr).add j = ⟨X.heap.size, j, none⟩ := by unfold Addr.add; split <;> simp_all
          rw [e]
          have hb := World.alloc_heap_new X (.cells xe.cells 30)
          simp only [World.cell?, hb]
          rw [← Array.getElem?_toList]; exact hu
        have hone : ∀ u ∈ (EntD.cells xe).toList, u.oneCell' = true := by rw [hxe]; simp [EntD.cells, Value.oneCell']
        have hxl : (EntD.cells xe).toList.length = 1 * 7 := by rw [hxe]; simp [EntD.cells]
        have exe : xe.cells = #[.slice ar nr cr, .int .i64 fam, .slice aq nq cq, .int .i64 ts, .int .i64 seq, .int .i64 kind, .slice av nv cv] := by rw [hxe]; rfl
        rw [exe] at hcells hone hxl
        simp only [EntD.cells]
        clear hg k1 k2 bx r1 r2 r3 hnx hT2 hb2 x1 x2 hxb hxo
        gi_wp2_with (gi_at_builtin; refine wpListIn_append_own _ rfl _ _ 22 rfl (V.heap.size + 6) 30 i0 _ 7 104 und_ents hi hz0 hz1 hz2 rfl (by decide) _ _ _ rfl (HK.out.2.alloc _) ⟨X.heap.size, 0, none⟩ 1 1 _ rfl hxl hcells hone (by show _ ≤ maxLen; unfold maxLen; omega) (by omega) (by rw [World.size_alloc]; omega) ?_; intro v' w1 hown' hgrow hnil; obtain ⟨g', cap', rfl⟩ := ownsRow_succ hown'; have kb1 : Bxd w1 Bl 22 _ := (HK.out.1.keep (Below.heap_alloc X _ _ (by omega))).keep (hgrow.block _ (by rw [World.size_alloc]; omega) (fun e => by have := (own_at HK.out.2 e.symm).1; omega)); have kc1 := kb1.cell; have kf1 := kb1.fz)
        have bA : Below X.heap.size X (X.alloc (.cells #[.slice ar nr cr, .int .i64 fam, .slice aq nq cq, .int .i64 ts, .int .i64 seq, .int .i64 kind, .slice av nv cv] 30)) := (Below.refl _ X).alloc (Nat.le_refl _) _
        have kst : ∀ i, i < X.heap.size → i < V.heap.size + 6 → i ≠ Bl → (w1.setCell ⟨Bl, 0, none⟩ (.slice (some ⟨g', 0, none⟩) (pre.length + 1) cap')).heap[i]? = X.heap[i]? := fun i h1 h2 h3 =>
          (Below.heap_setCell w1 ⟨Bl, 0, none⟩ _ i h3).trans ((hgrow.block i (by rw [World.size_alloc]; omega) (fun e => by have := (own_at HK.out.2 e.symm).1; omega)).trans (Below.heap_alloc X _ i h1))
        have szF : X.heap.size ≤ (w1.setCell ⟨Bl, 0, none⟩ (.slice (some ⟨g', 0, none⟩) (pre.length + 1) cap')).heap.size := by rw [World.size_setCell]; exact Nat.le_trans bA.size hgrow.size
        have hKO : KeepsOthers X (w1.setCell ⟨Bl, 0, none⟩ (.slice (some ⟨g', 0, none⟩) (pre.length + 1) cap')) := ((KeepsOthers.alloc X _).trans (KeepsOthers.of_grownBy hgrow (fun j o hj ho => by
          obtain ⟨_, cur, hc⟩ := own_at (HK.out.2.alloc _) hj.symm.symm
          rw [hc] at ho; cases ho; rfl))).trans (KeepsOthers.setCell _ _ _)
        have hKU : KU X (w1.setCell ⟨Bl, 0, none⟩ (.slice (some ⟨g', 0, none⟩) (pre.length + 1) cap')) := ((KU.of bA).trans (KU.grown hgrow (fun r hr => by
          obtain ⟨_, cur, hc⟩ := own_at (HK.out.2.alloc _) hr
          exact ⟨cur, _, _, hc, by decide⟩))).trans (KU.set kb1 (by decide) _ _)
        refine ⟨hKO.from _, ⟨⟨szF, fun i o hi ho hg => ?_⟩, szF, fun i o hB hi ho => hKO.same i o hi ho⟩, ⟨⟨_, kb1.set _, ?_⟩, fun y hy => ?_, ?_, ?_⟩, by simp; omega⟩
        · rw [kst i (Array.getElem?_eq_some_iff.1 hi).1 (by omega) (by omega)]; exact hi
        · rw [evals_snoc, List.length_append]
          have := ownsRow_setCell_below hown' (a := ⟨Bl, 0, none⟩) (show Bl < V.heap.size + 6 by omega) (.slice (some ⟨g', 0, none⟩) (pre.length + 1) cap')
          exact this
        · simp only [List.mem_append, List.mem_singleton] at hy
          rcases hy with hy | rfl
          · exact (HG.out.ents y hy).ku hKU
          · have := HX.out.ku hKU
            rw [hxe] at this
            exact this
        · have b0 := HG.out.below
          refine ⟨?_, ?_, ?_, Nat.le_trans b0.size szF, fun i hi => (kst i (by have := b0.size; omega) (by omega) (by omega)).trans (b0.block i hi)⟩
          · exact (hgrow.os.trans bA.os).trans b0.os
          · exact (hgrow.tape.trans bA.tape).trans b0.tape
          · exact (hgrow.output.trans bA.output).trans b0.output
        · have := HG.out.size; omega
      case done =>
        rintro Dm xs X8 hD hsm ⟨hgr, hlx⟩ hdf
        obtain ⟨lv8, k1, k2⟩ := hgr.box
        dsimp only
        rw [HFr.out]
        have HA8 := Lib.hid (HAg.out.later HNm.out hgr.below)
        have HMk8 : Hid (Marks X8 B (Dm :: Ds)) := by
          have hbg := hgr.below
          refine ⟨List.nodup_cons.2 ⟨fun hm => ?_, HMk.out.1⟩, fun Z hZ => ?_⟩
          · have := HMg.out Dm hm
            have := HWB2.out
            omega
          · simp only [List.mem_cons] at hZ
            rcases hZ with rfl | hZ
            · exact ⟨by have := HWB2.out; omega, hdf⟩
            · exact ⟨(HMk.out.2 Z hZ).1, HMm.out _ hbg Z hZ⟩
        have rl8 : RdL X8 lv8 xs := RdL.of (ownsRow_mono k2 (Nat.zero_le _)) (fun x hx => (hgr.ents x hx).ok) (by have := hsm.len; have := HLe.out; have := HLen.out.1; omega)
        obtain ⟨la, ln, lc, rfl⟩ : ∃ a n c, lv8 = .slice a n c := by
          obtain ⟨a, c, h⟩ := rl8.slice
          exact ⟨_, _, _, h⟩
        have HB8 := Lib.hid k1
        have HRl := Lib.hid rl8
        have HSl : Hid (Sm xs (R'.dropWhile (fun y => decide (compareS y F < 0)))) := (HLL.out ▸ hsm : Sm xs (L'.dropWhile (fun y => decide (compareS y F < 0)))).trans (Sm.dropW (EntD.Same.rfl' F) HSm5.out.symm)
        have KS8 : Hid (∀ Z, Below X8.heap.size X8 Z → (Z.cell? ⟨fB, 0, none⟩ = some F.vr ∧ Z.cell? ⟨fB, 1, none⟩ = some (.int .i64 F.fam) ∧ Z.cell? ⟨fB, 2, none⟩ = some F.vq ∧ Z.cell? ⟨fB, 3, none⟩ = some (.int .i64 F.ts) ∧ Z.cell? ⟨fB, 4, none⟩ = some (.int .i64 F.seq) ∧ Z.cell? ⟨fB, 5, none⟩ = some (.int .i64 F.kind) ∧ Z.cell? ⟨fB, 6, none⟩ = some F.vv) ∧ (Z.cell? ⟨rB, 0, none⟩ = some (.slice na nn nc) ∧ Z.cell? ⟨rB, 1, none⟩ = some (.bool false)) ∧ Z.cell? ⟨Bl, 0, none⟩ = some (.slice la ln lc)) := fun Z b => by
          have q := HA8.out.later HNm.out b
          exact ⟨⟨q.fb.vr, q.fb.fam, q.fb.vq, q.fb.ts, q.fb.seq, q.fb.kind, q.fb.vv⟩, ⟨q.rb.c0, q.rb.c1⟩, (HB8.out.keep (b.block _ HB8.out.lt)).cell⟩
        have HF9 : Hid (∀ Z, Below X8.heap.size X8 Z → Calls Try.prog 22 #[.agg #[.slice na nn nc, .bool false], .agg #[F.vr, .int .i64 F.fam, F.vq, .int .i64 F.ts, .int .i64 F.seq, .int .i64 F.kind, F.vv]] Z fun z w' => ∃ v, z = .returned v ∧ RdL w' v (R'.dropWhile (fun y => decide (compareS y F < 0))) ∧ Below Z.heap.size Z w') := fun Z b => by
          have q := HA8.out.later HNm.out b
          exact refFrom_any q.ref.rd q.oF.ok
        have HNi : Hid (∀ o : Option Nat, (o = none ∨ o = some gr ∨ o = some gq ∨ o = some gv) → o ≠ some iB) := fun o ho e => by
          have n := HNm.out.g2
          rcases ho with h | h | h | h <;> (rw [h] at e; cases e) <;> omega
        have D8 : Below X8.heap.size X8 X8.drew := (Below.refl _ _).drew
        have E8 : Below X8.heap.size X8 X8 := Below.refl _ _
        clear k1 k2 rl8 hgr hlx hsm hdf hD HAg x1 x2 hxb hxo hb2 hT2 b2 HFr
        go_wp2_with fail
        go_region_held3 (fun Z => (Z.cell? ⟨fB, 0, none⟩ = some F.vr ∧ Z.cell? ⟨fB, 1, none⟩ = some (.int .i64 F.fam) ∧ Z.cell? ⟨fB, 2, none⟩ = some F.vq ∧ Z.cell? ⟨fB, 3, none⟩ = some (.int .i64 F.ts) ∧ Z.cell? ⟨fB, 4, none⟩ = some (.int .i64 F.seq) ∧ Z.cell? ⟨fB, 5, none⟩ = some (.int .i64 F.kind) ∧ Z.cell? ⟨fB, 6, none⟩ = some F.vv) ∧ (Z.cell? ⟨rB, 0, none⟩ = some (.slice na nn nc) ∧ Z.cell? ⟨rB, 1, none⟩ = some (.bool false)) ∧ Z.cell? ⟨Bl, 0, none⟩ = some (.slice la ln lc)) (first | exact KS8.out _ D10 | exact KS8.out _ D9 | exact KS8.out _ D8) (first
          | (go_at_call 22; refine Calls.mono (HF9.out _ D8) ?_; rintro z8 wh ⟨v9, rfl, rd9, hh⟩; have D9 := D8.trans (hh.mono D8.size); have rdl := HRl.out.later D9)
          | (go_at_call 23; refine Calls.mono (sameList_ok rdl rd9 HSl.out) ?_; rintro z9 X9 ⟨rfl, hi9⟩; have D10 := D9.trans (hi9.mono D9.size)))
        have HA9 := Lib.hid (HA8.out.later HNm.out D10)
        have HM9 := Lib.hid (MkK.later (show MkK B (Dm :: Ds) X8 from HMk8.out.2) D10)
        have HNd := Lib.hid HMk8.out.1
        clear KS8 HF9 D8 E8 D9 D10 rdl rd9 hh hi9 HRl HSl HB8 HA8 HMk8
        by_cases hin : i < N
        · have hin' : (i : Int) < (N : Int) := by omega
          obtain ⟨tb, toff, rfl, tcl⟩ : ∃ b off, ta = some ⟨b, off, none⟩ ∧ ∀ i f, ts[i]? = some f → w.cell? ⟨b, off + i * 3, none⟩ = some (.int .i64 f.k) ∧ w.cell? ⟨b, off + i * 3 + 1, none⟩ = some (.int .i64 f.a) ∧ w.cell? ⟨b, off + i * 3 + 2, none⟩ = some (.int .i64 f.b) := by
            obtain ⟨a0, c0, h1, h2, h3, h4, h5⟩ := HT.out
            cases h1
            rcases h5 with h5 | ⟨b, off, h6, h7⟩
            · rw [h5] at hin
              exact absurd hin (by simp)
            · exact ⟨b, off, h6, h7⟩
          obtain ⟨tf, htf⟩ : ∃ f, ts[i]? = some f := ⟨ts[i]'(by rw [← HN.out]; exact hin), by simp⟩
          obtain ⟨tk0, tk1, tk2⟩ := tcl i tf htf
          have tlt : ∀ {o}, w.cell? ⟨tb, o, none⟩ ≠ none → ∀ Z, Below w.heap.size w Z → Z.cell? ⟨tb, o, none⟩ = w.cell? ⟨tb, o, none⟩ := fun h Z b => by
            obtain ⟨v, hv⟩ := Option.ne_none_iff_exists'.1 h
            exact b.cell (p := ⟨tb, _, none⟩) (World.block_lt_of_cell? _ _ hv)
          have KT : Hid (∀ Z, Below X9.heap.size X9 Z → (Z.cell? ⟨tb, toff + i * 3, none⟩ = some (.int .i64 tf.k) ∧ Z.cell? ⟨tb, toff + i * 3 + 1, none⟩ = some (.int .i64 tf.a) ∧ Z.cell? ⟨tb, toff + i * 3 + 2, none⟩ = some (.int .i64 tf.b))) := fun Z b => by
            have q := (HA9.out.later HNm.out b).below
            exact ⟨(tlt (by rw [tk0]; simp) Z q).trans tk0, (tlt (by rw [tk1]; simp) Z q).trans tk1, (tlt (by rw [tk2]; simp) Z q).trans tk2⟩
          have HTu : Hid (∀ Z, Below X9.heap.size X9 Z → Calls Try.prog 30 #[.agg #[.slice (some ⟨gr, 0, none⟩) nr cr, .int .i64 E.fam, .slice (some ⟨gq, 0, none⟩) nq cq, .int .i64 E.ts, .int .i64 E.seq, .int .i64 E.kind, .slice (some ⟨gv, 0, none⟩) nv cv], .slice none 0 0, .agg #[.int .i64 tf.k, .int .i64 tf.a, .int .i64 tf.b]] Z fun r w' => ∃ D2 : EntD, r = .returned (.agg #[.slice (some ⟨gr, 0, none⟩) nr cr, .int .i64 D2.fam, .slice (some ⟨gq, 0, none⟩) nq cq, .int .i64 D2.ts, .int .i64 D2.seq, .int .i64 D2.kind, .slice (some ⟨gv, 0, none⟩) nv cv]) ∧ (D2.vr = .slice (some ⟨gr, 0, none⟩) nr cr ∧ D2.vq = .slice (some ⟨gq, 0, none⟩) nq cq ∧ D2.vv = .slice (some ⟨gv, 0, none⟩) nv cv) ∧ LaidE w' (rB + 1) D2 ∧ EntD.Fine D2 ∧ ∃ o, Z.grownBy w' o ∧ (o = none ∨ o = some gr ∨ o = some gq ∨ o = some gv)) := fun Z b => by
            have q := HA9.out.later HNm.out b
            have eE : E = ⟨.slice (some ⟨gr, 0, none⟩) nr cr, E.fam, .slice (some ⟨gq, 0, none⟩) nq cq, E.ts, E.seq, E.kind, .slice (some ⟨gv, 0, none⟩) nv cv, E.row, E.qual, E.val⟩ := by
              obtain ⟨e1, e2, e3, e4, e5, e6, e7, e8, e9, e10⟩ := E
              have h1 := q.vr; have h2 := q.vq; have h3 := q.vv
              simp only at h1 h2 h3
              rw [h1, h2, h3]
            have l := q.lD
            have f := q.fD
            rw [eE] at l f
            refine (turnedN_any (k := tf.k) (a := tf.a) (b := tf.b) l f trivial trivial ⟨HNm.out.ap, trivial⟩).mono ?_
            rintro r w' ⟨D2, bs', o, rfl, ⟨v1, v2, v3⟩, l2, f2, _, _, g2, ho⟩
            refine ⟨D2, ?_, ⟨v1, v2, v3⟩, l2, f2, o, g2, ?_⟩
            · unfold EntD.cells; rw [v1, v2, v3]
            · rcases ho with h | h | h
              · exact .inl h
              · exact h.elim
              · exact .inr h
          have D0 : Below X9.heap.size X9 X9.drew := (Below.refl _ _).drew
          obtain ⟨d0, d1, d2, d3, d4, d5, d6⟩ := (HA9.out.later HNm.out D0).cellsI
          obtain ⟨t0, t1, t2⟩ := KT.out _ D0
          clear tk0 tk1 tk2 tcl tlt
          go_wp2_with fail
          have hmx : Try.prog.follows .mixedOrders = true := by kernel_rfl
          refine wp_region_noPanic ?_
          go_region_with_o (go_at_call 30; refine Calls.mono (HTu.out _ D0) ?_; rintro z10 w2 ⟨D2, rfl, ⟨v1, v2, v3⟩, l2, f2, o, g2, ho⟩; have ib2 := (HA9.out.later HNm.out D0).ib.far' g2 (HNi.out o ho); obtain ⟨i0, i1, i2, i3, i4, i5, i6⟩ := ib2.cells7; obtain ⟨j0, j1, j2, j3, j4, j5, j6⟩ := ib2.fz7; have HIb := Lib.hid ib2; have HG2 := Lib.hid g2)
          all_goals
            refine NoPanic.normal ?_
            have hZ : Am w tB rB gr nr cr gq nq cq gv nv cv iB fB qB xB B F x0 (filled w2 iB D2) L' R' (.slice na nn nc) D2 := (HA9.out.later HNm.out D0).turn HNm.out HG2.out ho l2 f2 v1 v2 v3 (filled_grown w2 iB D2) (filled_box HIb.out D2)
            have hMz : MkK B (Dm :: Ds) (filled w2 iB D2) := ((HM9.out.later D0).far HG2.out (fun g hg => by
              have n := HNm.out
              have := n.r; have := n.g1; have := n.g2; have := n.f; have := n.q; have := n.x; have := n.B
              rcases ho with h | h | h | h <;> (rw [h] at hg; cases hg) <;> omega)).far (filled_grown w2 iB D2) (fun g hg => by
              have n := HNm.out
              have := n.r; have := n.g1; have := n.g2; have := n.f; have := n.q; have := n.x; have := n.B
              cases hg; omega)
            have HZ := Lib.hid hZ
            have HMz := Lib.hid hMz
            unfold filled at HZ HMz
            rw [v1, v2, v3] at HZ HMz
            clear hZ hMz l2 f2 ho HIb HG2 g2 ib2 i0 i1 i2 i3 i4 i5 i6 j0 j1 j2 j3 j4 j5 j6 HTu KT t0 t1 t2 d0 d1 d2 d3 d4 d5 d6
            go_wp2
            refine ⟨⟨i + 1, L', R', _, D2, Dm :: Ds, HZ.out, HSm5.out, HLen.out.2, by omega, by omega, ⟨HNd.out, HMz.out⟩, ⟨rfl, rfl, rfl, rfl, rfl, rfl, rfl, rfl, rfl, rfl, rfl, rfl, rfl, rfl, rfl, rfl, rfl, rfl, rfl, rfl, rfl, rfl, rfl, rfl, rfl, rfl, rfl, rfl⟩, rfl⟩, ?_⟩
            simp [intOf]
            omega
        · have hin' : ¬ (i : Int) < (N : Int) := by omega
          go_wp2
          refine ⟨⟨i + 1, L', R', _, E, Dm :: Ds, HA9.out, HSm5.out, HLen.out.2, by omega, by omega, ⟨HNd.out, HM9.out⟩, ⟨rfl, rfl, rfl, rfl, rfl, rfl, rfl, rfl, rfl, rfl, rfl, rfl, rfl, rfl, rfl, rfl, rfl, rfl, rfl, rfl, rfl, rfl, rfl, rfl, rfl, rfl, rfl, rfl⟩, rfl⟩, ?_⟩
          simp [intOf]
          omega
      case stop =>
        rintro D c pre X hD hsp h hdf
        exact h.elim
    · have h2' : ¬ (i : Int) ≤ 30 := by omega
      go_wp2
      refine leaves_marks Ds X HAm.out.size HMk.out fun w' hs => ⟨_, results_tmp rfl _ _ _, rfl, HAm.out.below.trans (hs.below.mono HWB.out)⟩
  · have h1' : ¬ (i : Int) ≤ (N : Int) := by omega
    go_wp2
    refine leaves_marks Ds X HAm.out.size HMk.out fun w' hs => ⟨_, results_tmp rfl _ _ _, rfl, HAm.out.below.trans (hs.below.mono HWB.out)⟩
end Go.Proofs.Ytnjopfdeapclhaa

