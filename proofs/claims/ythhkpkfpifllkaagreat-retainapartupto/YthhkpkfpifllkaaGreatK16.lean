import Derived.Test.YthhkpkfpifllkaaGreatK15
namespace Go.Proofs.YthhkpkfpifllkaaGreat
open Go.RowKit Go.Maps
set_option linter.unusedVariables false

structure Fz (B B1 : Nat) (w w' : World) : Prop where
  os : w'.os = w.os
  tape : w'.tape = w.tape
  output : w'.output = w.output
  size : w.heap.size ≤ w'.heap.size
  block : ∀ i, i < w.heap.size → (i < B ∨ B1 ≤ i) → w'.heap[i]? = w.heap[i]?
def Bk (w : World) (g : Nat) (ty : TypeId) (n : Nat) : Prop := ∃ cur : Array Value, w.heap[g]? = some (.cells cur ty (0, 0)) ∧ n ≤ cur.size
structure Sw (B B1 : Nat) (w wr : World) (g gL gW : Nat) (vL vW : Value) (us : List Value) (M : Nat) : Prop where
  box : RBx wr g vL vW
  gR : B ≤ g ∧ g < B1
  cW : ∀ (i : Nat) u, us[i]? = some u → wr.cell? ⟨gW, i, none⟩ = some u
  tW : us ≠ [] → Tyd wr gW 82
  bl : ∀ u ∈ us, ∃ gb n c, u = .slice (some ⟨gb, 0, none⟩) n c ∧ Bk wr gb 5 n ∧ B ≤ gb ∧ gb < B1 ∧ n ≤ c ∧ n ≤ 281474976710656
  bL : Bk wr gL 84 (M * 7)
  lR : B ≤ gL ∧ gL < B1
  fr : Fz B B1 w wr
end Go.Proofs.YthhkpkfpifllkaaGreat

namespace Go.Proofs.YthhkpkfpifllkaaGreat
open Go.RowKit Go.Maps
set_option linter.unusedVariables false

theorem cell_heap {w w' : World} {b i : Nat} (h : w'.heap[b]? = w.heap[b]?) : w'.cell? ⟨b, i, none⟩ = w.cell? ⟨b, i, none⟩ := by simp only [World.cell?, h]
end Go.Proofs.YthhkpkfpifllkaaGreat

namespace Go.Proofs.YthhkpkfpifllkaaGreat
open Go.RowKit Go.Maps
set_option linter.unusedVariables false

def BentP (B B1 g : Nat) (us : List Value) (vL vW : Value) (n : Nat) (w w' : World) : Prop := ∃ ys' : List EntD, ys'.length = n ∧ Rm B w' g ys' ys'.length (ys' ++ [endE]) us vL vW ∧ Fz B B1 w w' ∧ (∀ y ∈ ys', ShrtW y) ∧ (∀ y ∈ ys', ByE y.dat)
end Go.Proofs.YthhkpkfpifllkaaGreat

namespace Go.Proofs.YthhkpkfpifllkaaGreat
open Go.RowKit
set_option linter.unusedVariables false

section
variable {w w' : World} {N : Nat} {v : Value} {xs : List EntD} {O : Nat → Prop} {x x' : EntD} {i g : Nat}
def EBl (x : EntD) (k : Nat) : Prop := x.vr.ownBlock = some k ∨ x.vq.ownBlock = some k ∨ x.vv.ownBlock = some k
theorem own_put {B n c k : Nat} {bs : List Nat} (h : Own w B (.slice (some ⟨g, 0, none⟩) n c) n bs) (hk : k < n) (b : Nat) : Own (w.setCell ⟨g, k, none⟩ (.int .u8 (b : Int))) B (.slice (some ⟨g, 0, none⟩) n c) n (bs.set k b) := by
  refine ⟨by rw [List.length_set]; exact h.1, ?_⟩
  have r := row_set h.2 (k := k) (by rw [bv_length, ← h.1]; exact hk) (.int .u8 (b : Int))
  have e : bv (bs.set k b) = (bv bs).set k (.int .u8 (b : Int)) := by simp [bv, List.map_set]
  rw [e]
  exact r
end
end Go.Proofs.YthhkpkfpifllkaaGreat

namespace Go.Proofs.YthhkpkfpifllkaaGreat
open Go.RowKit Go.Maps
set_option linter.unusedVariables false

structure SpF (W W' : World) (O : Nat → Prop) : Prop where
  os : W'.os = W.os
  tape : W'.tape = W.tape
  output : W'.output = W.output
  size : W.heap.size ≤ W'.heap.size
  block : ∀ i, i < W.heap.size → ¬ O i → W'.heap[i]? = W.heap[i]?
theorem SpF.refl (W : World) (O : Nat → Prop) : SpF W W O := ⟨rfl, rfl, rfl, Nat.le_refl _, fun _ _ _ => rfl⟩
theorem SpF.grown {W w w' : World} {O : Nat → Prop} {o : Option Nat} (h : SpF W w O) (g : w.grownBy w' o) (ho : ∀ k, o = some k → O k) : SpF W w' O :=
  ⟨g.os.trans h.os, g.tape.trans h.tape, g.output.trans h.output, Nat.le_trans h.size g.size, fun i hi hn => (g.block i (Nat.lt_of_lt_of_le hi h.size) (fun z => hn (ho i z.symm))).trans (h.block i hi hn)⟩
theorem SpF.below {W w w' : World} {O : Nat → Prop} (h : SpF W w O) (b : Below w.heap.size w w') : SpF W w' O :=
  ⟨b.os.trans h.os, b.tape.trans h.tape, b.output.trans h.output, Nat.le_trans h.size b.size, fun i hi hn => (b.block i (Nat.lt_of_lt_of_le hi h.size)).trans (h.block i hi hn)⟩
theorem SpF.of_below {W w : World} (O : Nat → Prop) (b : Below W.heap.size W w) : SpF W w O := (SpF.refl W O).below b
def Sml (x : EntD) : Prop := x.row.length ≤ 3000000 ∧ x.qual.length ≤ 3000000 ∧ x.val.length ≤ 3000000
structure Si (W : World) (N : Nat) (v : Value) (O : Nat → Prop) (n t : Nat) (u1 u2 u3 : Value) (n1 n2 n3 : Nat) (wr : World) : Prop where
  st : ∃ ys y, Rw wr N v ys O ∧ ys.length = n ∧ ys[t]? = some y ∧ (y.vr = u1 ∧ y.vq = u2 ∧ y.vv = u3) ∧ y.row.length = n1 ∧ y.qual.length = n2 ∧ y.val.length = n3
  fr : SpF W wr O
structure So (W : World) (N : Nat) (v : Value) (O : Nat → Prop) (n : Nat) (wr : World) : Prop where
  st : ∃ ys, Rw wr N v ys O ∧ ys.length = n
  fr : SpF W wr O
section
variable {W wr : World} {N n t n1 n2 n3 k c g : Nat} {v u1 u2 u3 : Value} {O : Nat → Prop}
end
end Go.Proofs.YthhkpkfpifllkaaGreat

namespace Go.Proofs.YthhkpkfpifllkaaGreat
open Go.RowKit Go.Maps
set_option linter.unusedVariables false

theorem SpF.trans {a b c : World} {O : Nat → Prop} (h : SpF a b O) (k : SpF b c O) : SpF a c O := ⟨k.os.trans h.os, k.tape.trans h.tape, k.output.trans h.output, Nat.le_trans h.size k.size, fun i hi hn => (k.block i (Nat.lt_of_lt_of_le hi h.size) hn).trans (h.block i hi hn)⟩
theorem own_byte {w : World} {B n c k : Nat} {a : Option Addr} {bs : List Nat} (h : Own w B (.slice a n c) n bs) (hk : k < n) : ∃ g, a = some ⟨g, 0, none⟩ ∧ (∃ b, w.cell? ⟨g, k, none⟩ = some (.int .u8 b)) ∧ w.frozen? ⟨g, k, none⟩ = false := by
  rcases h.2.2 with ⟨h1, h2⟩ | ⟨g, cap, cur, h1, _, h3, _⟩
  · omega
  · simp only [Value.slice.injEq] at h1
    obtain ⟨rfl, -, rfl⟩ := h1
    exact ⟨g, rfl, ⟨_, ownCell h hk⟩, by simp [World.frozen?, h3]⟩
section
variable {W wr : World} {N n t n1 n2 n3 k c1 c2 c3 : Nat} {v : Value} {a1 a2 a3 : Option Addr} {O : Nat → Prop}
end
end Go.Proofs.YthhkpkfpifllkaaGreat

namespace Go.Proofs.YthhkpkfpifllkaaGreat
open Go.RowKit
set_option linter.unusedVariables false

section
variable {w w' : World} {q : Nat} {pf pr : Option Addr} {vi vo : Value} {la : EntD} {has : Bool} {ct : Ct}
end
end Go.Proofs.YthhkpkfpifllkaaGreat

namespace Go.Proofs.YthhkpkfpifllkaaGreat
open Go.RowKit
set_option linter.unusedVariables false

def FlP (q wb rb : Nat) (fv : Value) (s : SpD) (la : EntD) (Oi Oo : Nat → Prop) (i : Nat) : Prop := i = q ∨ Its wb rb fv s i ∨ Oi i ∨ Oo i ∨ EBl la i
structure Fm (B wb g rb q : Nat) (fv : Value) (fs : List FamD) (clock : Int) (T : List En → World → (Nat → Prop) → List Vd → Prop) (pf pr : Option Addr) (W : World) (ins outs : List EntD) (la : EntD) (has : Bool) (ct : Ct) (vi vo : Value) (s : SpD) (hd : List En) (vs : List Vd) (Oi Oo : Nat → Prop) : Prop where
  box : FlBx W q pf pr vi vo la has ct
  rest : Rest B wb g rb fv fs clock (T hd) W s vs
  rin : Rw W B vi ins Oi
  rout : Rw W B vo outs Oo
  rla : O3 W B la
  lo : B ≤ q ∧ B ≤ wb ∧ B ≤ rb
  lt : ∀ i, Oi i ∨ Oo i → B ≤ i ∧ i < W.heap.size
  aq : ¬ Its wb rb fv s q ∧ ¬ Oi q ∧ ¬ Oo q ∧ ¬ EBl la q
  aI : ∀ i, Its wb rb fv s i → ¬ Oi i ∧ ¬ Oo i ∧ ¬ EBl la i
  ai : ∀ i, Oi i → ¬ Oo i ∧ ¬ EBl la i
  ao : ∀ i, Oo i → ¬ EBl la i
section
variable {B wb g rb q : Nat} {fv : Value} {fs : List FamD} {clock : Int} {T : List En → World → (Nat → Prop) → List Vd → Prop} {pf pr : Option Addr} {W W' : World} {ins outs : List EntD} {la : EntD} {has : Bool} {ct : Ct} {vi vo : Value} {s s' : SpD} {hd : List En} {vs vs' : List Vd} {Oi Oo : Nat → Prop}
end
end Go.Proofs.YthhkpkfpifllkaaGreat

namespace Go.Proofs.YthhkpkfpifllkaaGreat
open Go.RowKit Go.Maps
set_option linter.unusedVariables false

def orNone (E : Int) (D : List En) : List En := if E = 0 then D else []
section
variable {W : World} {cap fc : Nat} {a fa : Option Addr} {fs : List FamD} {l : List EntD} {m : List En} {E : Int}
variable (hr : RdF W (.slice fa fs.length fc) fs) (hn : fa = none → fc = 0) (C : Nat) (hC : (C = 0 ↔ SchemaOk fs) ∧ (C = 0 ∨ C = 28)) (clock t n low : Int) (major : Bool)
include hr hC
include hn
end
end Go.Proofs.YthhkpkfpifllkaaGreat

namespace Go.Proofs.YthhkpkfpifllkaaGreat
open Go.RowKit Go.Maps
set_option linter.unusedVariables false

structure AskD where
  k : Int
  fa : Option Addr
  fc : Nat
  fs : List FamD
  clock : Int
  t : Int
  n : Int
  major : Bool
  la : Option Addr
  lc : Nat
  l : List EntD
def AskD.cells (o : AskD) : List Value := [.int .i64 o.k, .slice o.fa o.fs.length o.fc, .int .i64 o.clock, .int .i64 o.t, .int .i64 o.n, .bool o.major, .slice o.la o.l.length o.lc]
def AskD.Ok (w : World) (o : AskD) : Prop := RdF w (.slice o.fa o.fs.length o.fc) o.fs ∧ (o.fa = none → o.fc = 0) ∧ RdL3 w o.la o.lc o.l ∧ o.l.length ≤ 1353245080300 ∧ ∀ x ∈ o.l, ShrtW x
def RdA (w : World) (v : Value) (os : List AskD) : Prop :=
  os.length ≤ 281474976710656 ∧ ∃ a cap, v = .slice a os.length cap ∧ (os = [] ∨ ∃ b off, a = some ⟨b, off, none⟩ ∧ ∀ i o, os[i]? = some o → (∀ j x, o.cells[j]? = some x → w.cell? ⟨b, off + i * 7 + j, none⟩ = some x) ∧ AskD.Ok w o)
def RdL3E (w : World) (v : Value) (zs : List EntD) : Prop := ∃ a c, v = .slice a zs.length c ∧ RdL3 w a c zs
def Both (f g : Nat) (xs ys : Array Value) (W : World) : Prop :=
  ∃ (E : Int) (D : List En), D.length ≤ 1353245080300 ∧ (∀ Z, Below W.heap.size W Z → Calls Tryz.prog f xs Z fun r W' => ∃ v zs, r = .returned (.tuple #[v, .int .i64 E]) ∧ Vw Z W' zs v D) ∧ (∀ Z, Below W.heap.size W Z → Calls Tryz.prog g ys Z fun r W' => ∃ v zs, r = .returned (.tuple #[v, .int .i64 E]) ∧ Vw Z W' zs v D)
section
variable {W : World} {aL la fa : Option Addr} {cL lc fc : Nat} {ys l : List EntD} {fs : List FamD} (hy : RdL3 W aL cL ys) (hl : RdL3 W la lc l) (hz : ys.map EntD.dat = l.map EntD.dat) (hn : l.length ≤ 1353245080300)
include hy hl hz hn
variable (hr : RdF W (.slice fa fs.length fc) fs) (hnn : fa = none → fc = 0) (C : Nat) (hC : (C = 0 ↔ SchemaOk fs) ∧ (C = 0 ∨ C = 28)) (clock t n low : Int) (major : Bool)
include hr hnn hC
end
end Go.Proofs.YthhkpkfpifllkaaGreat

namespace Go.Proofs.YthhkpkfpifllkaaGreat
open Go.RowKit
set_option linter.unusedVariables false

theorem run_append_ents {w : World} {N C : Nat} {v u : Value} {xs ys : List EntD} {ty : TypeId} (hr : w.ownsRow N 84 7 v xs.length (evals xs)) (hu : w.ownsRow C 84 7 u ys.length (evals ys)) (ho3 : ∀ y ∈ ys, O3 w C y) (hn : (xs.length + ys.length) * 104 ≤ 140737488355328) (hN : N ≤ w.heap.size) :
    ∃ v' w', (Builtin.append_ #[28, 28] ty #[v, u]).run Tryz.prog w = .ok v' w' ∧ w'.ownsRow N 84 7 v' (xs ++ ys).length (evals (xs ++ ys)) ∧ w.grownBy w' v.ownBlock ∧ (∀ k, v'.ownBlock = some k → v.ownBlock = some k ∨ k = w.heap.size) := by
  obtain ⟨i0, hi, hz0, hz1, hz2⟩ := info_parts info_ent3
  rcases hu.2 with ⟨h1, h2⟩ | ⟨g, cap, cur, h1, h2, h3, h4, h5, h6, h7⟩
  · have hz := List.eq_nil_of_length_eq_zero h2
    subst hz
    refine ⟨v, w, ?_, by simpa using hr, ⟨rfl, rfl, rfl, Nat.le_refl _, fun _ _ _ => rfl⟩, fun k hk => .inl hk⟩
    rw [h1]
    exact run_append_owned_none (P := Tryz.prog) (w := w) N 28 ty 84 i0 7 und_ents3 hi v xs.length (evals xs) hr
  · obtain ⟨v', w', hr', k2, k3, k4, k5⟩ := run_append_own_at (P := Tryz.prog) w N 28 ty 84 i0 _ 7 104 und_ents3 hi hz0 hz1 hz2 rfl (by decide) v xs.length (evals xs) hr ⟨g, 0, none⟩ ys.length cap (evals ys) (evals_len ys) (fun j u hj => by
        obtain ⟨y, e1, e2⟩ := evals_get3 hj
        have e : (⟨g, 0, none⟩ : Addr).add j = ⟨g, j, none⟩ := by unfold Addr.add; split <;> simp_all
        rw [e]
        have hu' := hu
        rw [h1] at hu'
        obtain ⟨g2, e3, _, _, hc⟩ := row_cells3 hu' e1
        cases e3
        have := hc _ _ e2
        rwa [show j / 7 * 7 + j % 7 = j from by omega] at this) (fun u hu => by
        obtain ⟨j, hj⟩ := List.getElem?_of_mem hu
        obtain ⟨y, e1, e2⟩ := evals_get3 hj
        exact (ho3 y (List.mem_of_getElem? e1)).cells_one u (List.mem_of_getElem? e2)) (by unfold maxLen; omega) (by omega) hN
    rw [h1]
    refine ⟨v', w', hr', ?_, k3, fun k hk => ?_⟩
    · rw [evals_app3, List.length_append]
      exact k2
    · rcases k5 with k5 | k5
      · rw [k5] at hk; exact .inl hk
      · rw [k5] at hk; cases hk; exact .inr rfl
theorem wp_append_ents {w : World} {N C : Nat} {v u : Value} {xs ys : List EntD} {o : Oper} {a : Act} {K : Act → World → Prop} {Q : Exit → Act → World → Prop} (s y : Operand)
    (ho : o.op = .call { callee := .builtin .append, args := #[s, y], argTypes := #[28, 28] })
    (hs : a.eval s = v) (hr : w.ownsRow N 84 7 v xs.length (evals xs)) (hy : a.eval y = u) (hu : w.ownsRow C 84 7 u ys.length (evals ys)) (ho3 : ∀ y ∈ ys, O3 w C y) (hn : (xs.length + ys.length) * 104 ≤ 140737488355328) (hN : N ≤ w.heap.size)
    (h : ∀ a' n' c' w', n' = (xs ++ ys).length → w'.ownsRow N 84 7 (.slice a' n' c') (xs ++ ys).length (evals (xs ++ ys)) → w.grownBy w' v.ownBlock → (∀ k, (Value.slice a' n' c').ownBlock = some k → v.ownBlock = some k ∨ k = w.heap.size) → K (a.put o.dst (.slice a' n' c')) w') : Oper.wp Tryz.prog o a w K Q := by
  obtain ⟨v', w', hrn, h1', h2, h3⟩ := run_append_ents (ty := o.type) hr hu ho3 hn hN
  obtain ⟨a', c', rfl⟩ := rows_form3 h1'
  unfold Oper.wp execOp
  rw [ho]
  simp only [resolve, invoke, builtin, Sem.run_bind, Sem.run_pure, Result.andThen_ok, List.map_toArray, List.map_cons, List.map_nil, hs, hy, hrn]
  exact h a' _ c' w' rfl h1' h2 h3
set_option maxRecDepth 100000 in
theorem op_loadLi {a : Act} {w : World} {x g n c j : Nat} {ad : Option Addr} {d : Option Nat} {ps : String} {af : Array Edge} (hx : a.tmps[x]?.getD undef = .pointer (some ⟨g, j, none⟩)) (h : w.cell? ⟨g, j, none⟩ = some (.slice ad n c)) :
    (execOp a.eval { dst := d, op := Op.load 28 (Operand.tmp x), type := 28, pos := ps, after := af, guard := none }).run Tryz.prog w = .ok (.value (.slice ad n c)) w := by
  go_simp
set_option maxRecDepth 100000 in
theorem wp_storeLi {a : Act} {w : World} {K : Act → World → Prop} {Q : Exit → Act → World → Prop} {p q g n c j : Nat} {a' : Option Addr} {y : Value} {ps : String} {af : Array Edge} (hc : w.cell? ⟨g, j, none⟩ = some y) (hf : w.frozen? ⟨g, j, none⟩ = false) (hp : a.tmps[p]?.getD undef = .pointer (some ⟨g, j, none⟩)) (hq : a.tmps[q]?.getD undef = .slice a' n c) (hk : K a (w.setCell ⟨g, j, none⟩ (.slice a' n c))) :
    Oper.wp Tryz.prog { dst := none, op := Op.store 28 (Operand.tmp p) (Operand.tmp q), type := 0, pos := ps, after := af, guard := none } a w K Q := by
  go_simp
  exact hk
set_option maxRecDepth 100000 in
theorem wp_cloneAllA {a : Act} {w : World} {K : Act → World → Prop} {Q : Exit → Act → World → Prop} {x : Nat} {v : Value} {d : Option Nat} {ty ts : TypeId} {ps : String} {af : Array Edge} {R : Ending → World → Prop} (hx : a.tmps[x]?.getD undef = v) (hc : Calls Tryz.prog 14 #[v] w R) (hk : ∀ r w', R r w' → ∃ u, r = .returned u ∧ K (a.put d u) w') :
    Oper.wp Tryz.prog { dst := d, op := Op.call { callee := .value (.func 14), args := #[.tmp x], argTypes := #[ts] }, type := ty, pos := ps, after := af, guard := none } a w K Q := by
  go_simp
  refine Calls.mono hc ?_
  intro r w' hr
  obtain ⟨u, rfl, hk⟩ := hk r w' hr
  exact hk
end Go.Proofs.YthhkpkfpifllkaaGreat

namespace Go.Proofs.YthhkpkfpifllkaaGreat
open Go.RowKit
set_option linter.unusedVariables false

structure Fdt (fs : List FamD) (clock : Int) (OO : List Vd → List En) (ins outs : List EntD) (la : EntD) (s : SpD) (V0 us : List Vd) (l m : List EntD) (n : Nat) : Prop where
  pu : Pushed (mt fs) clock fs.length l m s.dat us
  li : l.map EntD.dat = ins.map EntD.dat
  out : outs.map EntD.dat = OO us
  lla : s.begun = true → la.dat = s.last.dat
  bla : Sz la.dat
  szi : ∀ x ∈ ins, Sz x.dat
  sz0 : ∀ v ∈ V0, Sz v.e
  few : V0.length + ins.length ≤ n
def Fl (B wb g rb q : Nat) (fv : Value) (fs : List FamD) (clock : Int) (T : List En → World → (Nat → Prop) → List Vd → Prop) (OO : List Vd → List En) (pf pr : Option Addr) (ct : Ct) (V0 : List Vd) (W : World) (n : Nat) (P : Nat → Prop) : Prop :=
  ∃ ins outs la vi vo s us l m Oi Oo, Fm B wb g rb q fv fs clock T pf pr W ins outs la s.begun ct vi vo s (OO (V0 ++ us)) (V0 ++ us) Oi Oo ∧ Fdt fs clock OO ins outs la s V0 us l m n ∧ P = FlP q wb rb fv s la Oi Oo
section
variable {fs : List FamD} {clock : Int} {OO : List Vd → List En} {wa : List En → List En} {ins outs : List EntD} {la : EntD} {s : SpD} {V0 us : List Vd} {l m : List EntD} {n : Nat}
end
end Go.Proofs.YthhkpkfpifllkaaGreat

namespace Go.Proofs.YthhkpkfpifllkaaGreat
open Go.RowKit
set_option linter.unusedVariables false

def CBx (w : World) (b : Nat) (fa : Option Addr) (K fc : Nat) (clock : Int) (major : Bool) (low t nv : Int) : Prop := w.heap[b]? = some (.cells #[.slice fa K fc, .int .i64 clock, .bool major, .int .i64 low, .int .i64 t, .int .i64 nv] 62 (0, 0))
def FlTo (B wb g rb q : Nat) (fv : Value) (fs : List FamD) (clock : Int) (T : List En → World → (Nat → Prop) → List Vd → Prop) (OO : List Vd → List En) (pf pr : Option Addr) (ct : Ct) (V0 : List Vd) (W W' : World) (n : Nat) (P : Nat → Prop) : Prop :=
  ∃ P', Fl B wb g rb q fv fs clock T OO pf pr ct V0 W' n P' ∧ SpF W W' P ∧ ∀ i, P' i → P i ∨ W.heap.size ≤ i
theorem SpF.mono {W W' : World} {O O' : Nat → Prop} (h : SpF W W' O) (k : ∀ i, i < W.heap.size → O i → O' i) : SpF W W' O' := ⟨h.os, h.tape, h.output, h.size, fun i hi hn => h.block i hi (fun z => hn (k i hi z))⟩
theorem SpF.then {W X Y : World} {O O' : Nat → Prop} (h : SpF W X O) (k : SpF X Y O') (hO : ∀ i, i < W.heap.size → O' i → O i) : SpF W Y O := ⟨k.os.trans h.os, k.tape.trans h.tape, k.output.trans h.output, Nat.le_trans h.size k.size, fun i hi hn => (k.block i (Nat.lt_of_lt_of_le hi h.size) (fun z => hn (hO i hi z))).trans (h.block i hi hn)⟩
end Go.Proofs.YthhkpkfpifllkaaGreat

namespace Go.Proofs.YthhkpkfpifllkaaGreat
open Go.RowKit
set_option linter.unusedVariables false

abbrev Tv (A : Act) (x : Nat) (v : Value) : Prop := A.tmps[x]?.getD undef = v
theorem tn {A B : Act} {d x : Nat} {v u : Value} (e : B = A.put (some d) v) (h : x ≠ d) (k : Tv A x u) : Tv B x u := by rw [e]; exact put_ne h k
theorem te {A B : Act} {d n : Nat} {v : Value} (e : B = A.put (some d) v) (hs : A.tmps.size = n) (h : d < n) : Tv B d v := by rw [e]; exact put_eq hs h
theorem tz {A B : Act} {d n : Nat} {v : Value} (e : B = A.put (some d) v) (hs : A.tmps.size = n) : B.tmps.size = n := by rw [e]; exact put_sz hs
section
variable {P : Program} {ops : Array Oper} {Q : Exit → Act → World → Prop} {md : Region.Mode} {S : World → Prop} {E : Nat → Bool}
theorem AnyE.tk {i : Nat} {oi : Oper} {fuel : Nat} {listed : Array Bool} {a : Act} {w : World} (v : Value) (hi : ops[i]? = some oi) (hb : (Region.noSelect ops && (Region.free md ops listed i && (eFree md ops listed i E && (Region.ready md ops listed).contains i))) = true) (hQ : ∀ c a w, Q (.panic c) (a.put oi.dst v) w → Q (.panic c) a w) (hg : Region.wanted oi (yielded ops a.tmps) = true) (hy : ∀ wq, S wq → (execOp a.eval oi).run P wq = .ok (.value v) wq) (hS : S w) (h : AnyE P md ops Q S E fuel (listed.setIfInBounds i true) (a.put oi.dst v) w) : AnyE P md ops Q S E (fuel + 1) listed a w := by
  simp only [Bool.and_eq_true] at hb
  exact AnyE.take v hi hb.1 hb.2.1 hb.2.2.1 hb.2.2.2 hQ (.inl ⟨hg, hy⟩) hS h
end
end Go.Proofs.YthhkpkfpifllkaaGreat

namespace Go.Proofs.YthhkpkfpifllkaaGreat
open Go.RowKit
set_option linter.unusedVariables false

def KBx (w : World) (g : Nat) (vE vG vB vH : Value) (tl : List Value) (ty : TypeId) : Prop := w.heap[g]? = some (.cells (vE :: vG :: vB :: vH :: Value.slice none 0 0 :: tl).toArray ty (0, 0))
section
variable {w w' : World} {g : Nat} {vE vG vB vH : Value} {tl : List Value} {ty : TypeId}
theorem KBx.lt (h : KBx w g vE vG vB vH tl ty) : g < w.heap.size := (Array.getElem?_eq_some_iff.1 h).1
theorem KBx.keep (h : KBx w g vE vG vB vH tl ty) (k : w'.heap[g]? = w.heap[g]?) : KBx w' g vE vG vB vH tl ty := k.trans h
theorem KBx.c0 (h : KBx w g vE vG vB vH tl ty) : w.cell? ⟨g, 0, none⟩ = some vE := by unfold KBx at h; simp [World.cell?, h]
theorem KBx.c1 (h : KBx w g vE vG vB vH tl ty) : w.cell? ⟨g, 1, none⟩ = some vG := by unfold KBx at h; simp [World.cell?, h]
theorem KBx.c2 (h : KBx w g vE vG vB vH tl ty) : w.cell? ⟨g, 2, none⟩ = some vB := by unfold KBx at h; simp [World.cell?, h]
theorem KBx.c3 (h : KBx w g vE vG vB vH tl ty) : w.cell? ⟨g, 3, none⟩ = some vH := by unfold KBx at h; simp [World.cell?, h]
theorem KBx.fz (h : KBx w g vE vG vB vH tl ty) (i : Nat) : w.frozen? ⟨g, i, none⟩ = false := by unfold KBx at h; simp [World.frozen?, h]
theorem KBx.setE (h : KBx w g vE vG vB vH tl ty) (u : Value) : KBx (w.setCell ⟨g, 0, none⟩ u) g u vG vB vH tl ty := by unfold KBx at *; simp [World.setCell, Array.getElem?_modify, h]
theorem KBx.setG (h : KBx w g vE vG vB vH tl ty) (u : Value) : KBx (w.setCell ⟨g, 1, none⟩ u) g vE u vB vH tl ty := by unfold KBx at *; simp [World.setCell, Array.getElem?_modify, h]
theorem KBx.setB (h : KBx w g vE vG vB vH tl ty) (u : Value) : KBx (w.setCell ⟨g, 2, none⟩ u) g vE vG u vH tl ty := by unfold KBx at *; simp [World.setCell, Array.getElem?_modify, h]
theorem KBx.setH (h : KBx w g vE vG vB vH tl ty) (u : Value) : KBx (w.setCell ⟨g, 3, none⟩ u) g vE vG vB u tl ty := by unfold KBx at *; simp [World.setCell, Array.getElem?_modify, h]
theorem KBx.tyd (h : KBx w g vE vG vB vH tl ty) : Tyd w g ty := ⟨_, _, h⟩
end
set_option maxRecDepth 100000 in
theorem op_fieldB2 {a : Act} {w : World} {x g : Nat} {d : Option Nat} {ps : String} {af : Array Edge} (hx : a.tmps[x]?.getD undef = .pointer (some ⟨g, 0, none⟩)) :
    (execOp a.eval { dst := d, op := Op.fieldAddr 69 (Operand.tmp x) 2, type := 0, pos := ps, after := af, guard := none }).run Tryz.prog w = .ok (.value (.pointer (some ⟨g, 2, none⟩))) w := by
  go_simp
set_option maxRecDepth 100000 in
theorem wp_fieldB2 {a : Act} {w : World} {K : Act → World → Prop} {Q : Exit → Act → World → Prop} {x g : Nat} {d : Option Nat} {ps : String} {af : Array Edge} (hx : a.tmps[x]?.getD undef = .pointer (some ⟨g, 0, none⟩)) (hk : K (a.put d (.pointer (some ⟨g, 2, none⟩))) w) :
    Oper.wp Tryz.prog { dst := d, op := Op.fieldAddr 69 (Operand.tmp x) 2, type := 0, pos := ps, after := af, guard := none } a w K Q := by
  go_simp
  exact hk
set_option maxRecDepth 100000 in
theorem op_loadP {a : Act} {w : World} {x g n c j : Nat} {ad : Option Addr} {d : Option Nat} {ps : String} {af : Array Edge} (hx : a.tmps[x]?.getD undef = .pointer (some ⟨g, j, none⟩)) (h : w.cell? ⟨g, j, none⟩ = some (.slice ad n c)) :
    (execOp a.eval { dst := d, op := Op.load 35 (Operand.tmp x), type := 35, pos := ps, after := af, guard := none }).run Tryz.prog w = .ok (.value (.slice ad n c)) w := by
  go_simp
set_option maxRecDepth 100000 in
theorem op_loadY {a : Act} {w : World} {x g j : Nat} {v : Value} {d : Option Nat} {ps : String} {af : Array Edge} (hx : a.tmps[x]?.getD undef = .pointer (some ⟨g, j, none⟩)) (h : w.cell? ⟨g, j, none⟩ = some v) :
    (execOp a.eval { dst := d, op := Op.load 82 (Operand.tmp x), type := 82, pos := ps, after := af, guard := none }).run Tryz.prog w = .ok (.value v) w := by
  go_simp
set_option maxRecDepth 100000 in
theorem op_indexE {a : Act} {w : World} {x y b o n c t : Nat} {d : Option Nat} {ps : String} {af : Array Edge} (hx : a.tmps[x]?.getD undef = .slice (some ⟨b, o, none⟩) n c) (hy : a.tmps[y]?.getD undef = .int .i64 (t : Int)) (ht : t < n) :
    (execOp a.eval { dst := d, op := Op.indexAddr 28 (Operand.tmp x) (Operand.tmp y), type := 0, pos := ps, after := af, guard := none }).run Tryz.prog w = .ok (.value (.pointer (some ⟨b, o + t * 7, none⟩))) w := by
  have h1 : (t : Int) < (n : Int) := by omega
  have h0 : (0 : Int) ≤ (t : Int) := by omega
  go_simp
set_option maxRecDepth 100000 in
theorem op_fieldE0 {a : Act} {w : World} {x g j : Nat} {d : Option Nat} {ps : String} {af : Array Edge} (hx : a.tmps[x]?.getD undef = .pointer (some ⟨g, j, none⟩)) :
    (execOp a.eval { dst := d, op := Op.fieldAddr 84 (Operand.tmp x) 0, type := 0, pos := ps, after := af, guard := none }).run Tryz.prog w = .ok (.value (.pointer (some ⟨g, j, none⟩))) w := by
  go_simp
set_option maxRecDepth 100000 in
theorem op_fieldE2 {a : Act} {w : World} {x g j : Nat} {d : Option Nat} {ps : String} {af : Array Edge} (hx : a.tmps[x]?.getD undef = .pointer (some ⟨g, j, none⟩)) :
    (execOp a.eval { dst := d, op := Op.fieldAddr 84 (Operand.tmp x) 2, type := 0, pos := ps, after := af, guard := none }).run Tryz.prog w = .ok (.value (.pointer (some ⟨g, j + 2, none⟩))) w := by
  go_simp
set_option maxRecDepth 100000 in
theorem op_fieldE6 {a : Act} {w : World} {x g j : Nat} {d : Option Nat} {ps : String} {af : Array Edge} (hx : a.tmps[x]?.getD undef = .pointer (some ⟨g, j, none⟩)) :
    (execOp a.eval { dst := d, op := Op.fieldAddr 84 (Operand.tmp x) 6, type := 0, pos := ps, after := af, guard := none }).run Tryz.prog w = .ok (.value (.pointer (some ⟨g, j + 6, none⟩))) w := by
  go_simp
end Go.Proofs.YthhkpkfpifllkaaGreat

namespace Go.Proofs.YthhkpkfpifllkaaGreat
open Go.RowKit
set_option linter.unusedVariables false

set_option maxRecDepth 100000 in
theorem wp_build3 {a : Act} {w : World} {K : Act → World → Prop} {Q : Exit → Act → World → Prop} {p q r n0 n1 n2 c0 c1 c2 : Nat} {a0 a1 a2 : Option Addr} {d : Option Nat} {ps : String} {af : Array Edge} (h0 : a.tmps[p]?.getD undef = .slice a0 n0 c0) (h1 : a.tmps[q]?.getD undef = .slice a1 n1 c1) (h2 : a.tmps[r]?.getD undef = .slice a2 n2 c2) (hk : K (a.put d (.slice (some ⟨w.heap.size, 0, none⟩) 3 3)) (w.alloc (.cells #[.slice a0 n0 c0, .slice a1 n1 c1, .slice a2 n2 c2] 82))) :
    Oper.wp Tryz.prog { dst := d, op := Op.buildSlice 35 3 #[(0, Operand.tmp p), (1, Operand.tmp q), (2, Operand.tmp r)], type := 35, pos := ps, after := af, guard := none } a w K Q := by
  go_simp
  exact hk
set_option maxRecDepth 100000 in
theorem wp_storeP {a : Act} {w : World} {K : Act → World → Prop} {Q : Exit → Act → World → Prop} {p q g n c j : Nat} {a' : Option Addr} {y : Value} {ps : String} {af : Array Edge} (hc : w.cell? ⟨g, j, none⟩ = some y) (hf : w.frozen? ⟨g, j, none⟩ = false) (hp : a.tmps[p]?.getD undef = .pointer (some ⟨g, j, none⟩)) (hq : a.tmps[q]?.getD undef = .slice a' n c) (hk : K a (w.setCell ⟨g, j, none⟩ (.slice a' n c))) :
    Oper.wp Tryz.prog { dst := none, op := Op.store 35 (Operand.tmp p) (Operand.tmp q), type := 0, pos := ps, after := af, guard := none } a w K Q := by
  go_simp
  exact hk
theorem wp_append_w3 {w : World} {N : Nat} {v u1 u2 u3 : Value} {us : List Value} {o : Oper} {a : Act} {K : Act → World → Prop} {Q : Exit → Act → World → Prop} (s y : Operand)
    (ho : o.op = .call { callee := .builtin .append, args := #[s, y], argTypes := #[35, 35] })
    (hs : a.eval s = v) (hr : w.ownsRow N 82 1 v us.length us) (h1 : u1.oneCell' = true) (h2 : u2.oneCell' = true) (h3 : u3.oneCell' = true) (hy : a.eval y = .slice (some ⟨w.heap.size, 0, none⟩) 3 3) (hn : us.length + 3 ≤ 5864062014805) (hN : N ≤ w.heap.size)
    (h : ∀ a' n' c' w', n' = (us ++ [u1, u2, u3]).length → w'.ownsRow N 82 1 (.slice a' n' c') (us ++ [u1, u2, u3]).length (us ++ [u1, u2, u3]) → (w.alloc (.cells #[u1, u2, u3] 82)).grownBy w' v.ownBlock → (∀ k, (Value.slice a' n' c').ownBlock = some k → v.ownBlock = some k ∨ w.heap.size + 1 ≤ k) → K (a.put o.dst (.slice a' n' c')) w') : Oper.wp Tryz.prog o a (w.alloc (.cells #[u1, u2, u3] 82)) K Q := by
  obtain ⟨i0, hi, hz0, hz1, hz2⟩ := info_parts (show (Tryz.prog.info? 82).map (fun i => (i.zero, i.size, i.bytes)) = some (some (.slice none 0 0), 1, 24) by kernel_rfl)
  obtain ⟨v', w', hrn, k1, k2, k3, k4⟩ := run_append_own_at (P := Tryz.prog) (w.alloc (.cells #[u1, u2, u3] 82)) N 35 o.type 82 i0 (.slice none 0 0) 1 24 (by kernel_rfl) hi hz0 hz1 hz2 rfl (by decide) v us.length us (hr.alloc _) ⟨w.heap.size, 0, none⟩ 3 3 [u1, u2, u3] rfl (fun j u hj => by
    have hn := heap_new w (.cells #[u1, u2, u3] 82)
    have e3 : ((⟨w.heap.size, 0, none⟩ : Addr).add j) = ⟨w.heap.size, j, none⟩ := by
      unfold Addr.add
      by_cases hj : j = 0 <;> simp [hj]
    rw [e3]
    have e2 : (w.alloc (.cells #[u1, u2, u3] 82)).heap[w.heap.size]? = some (.cells #[u1, u2, u3] 82 (0, 0)) := hn
    simp only [World.cell?, e2]
    simpa using hj) (fun u hu => by
    simp only [List.mem_cons, List.not_mem_nil, or_false] at hu
    rcases hu with rfl | rfl | rfl
    · exact h1
    · exact h2
    · exact h3) (by unfold maxLen; omega) (by omega) (by rw [World.size_alloc]; omega)
  have k1' : w'.ownsRow N 82 1 v' (us ++ [u1, u2, u3]).length (us ++ [u1, u2, u3]) := by rw [List.length_append]; exact k1
  obtain ⟨a', c', rfl⟩ := row_formW k1'
  unfold Oper.wp execOp
  rw [ho]
  simp only [resolve, invoke, builtin, Sem.run_bind, Sem.run_pure, Result.andThen_ok, List.map_toArray, List.map_cons, List.map_nil, hs, hy, hrn]
  refine h a' _ c' w' rfl k1' k2 (fun k hk => ?_)
  rcases k4 with k4 | k4
  · rw [k4] at hk; exact .inl hk
  · rw [k4, World.size_alloc] at hk
    cases hk
    exact .inr (Nat.le_refl _)
set_option maxRecDepth 100000 in
theorem wpl_append_l1 {w : World} {ops : Array Oper} {rest : List Oper} {o : Oper} {a : Act} {Q : Exit → Act → World → Prop} (hgd : o.guard = none) (s x : Operand)
    (ho : o.op = .call { callee := .builtin .append, args := #[s, x], argTypes := #[67, 67] })
    (B : Nat) (v : Value) (us : List Value) (hs : a.eval s = v) (hown : w.ownsRow B 28 1 v us.length us)
    (u1 : Value) (h1 : u1.oneCell' = true) (hx : a.eval x = .slice (some ⟨w.heap.size, 0, none⟩) 1 1) (hm : us.length + 1 ≤ 5864062014805) (hB : B ≤ w.heap.size)
    (h : ∀ a' n' c' w', n' = (us ++ [u1]).length → w'.ownsRow B 28 1 (.slice a' n' c') (us ++ [u1]).length (us ++ [u1]) → (w.alloc (.cells #[u1] 28)).grownBy w' v.ownBlock → (∀ k, (Value.slice a' n' c').ownBlock = some k → v.ownBlock = some k ∨ w.heap.size + 1 ≤ k) → wpList Tryz.prog ops Q rest (a.put o.dst (.slice a' n' c')) w') : wpList Tryz.prog ops Q (o :: rest) a (w.alloc (.cells #[u1] 28)) := by
  obtain ⟨i0, hi, hz0, hz1, hz2⟩ := info_parts (show (Tryz.prog.info? 28).map (fun i => (i.zero, i.size, i.bytes)) = some (some (.slice none 0 0), 1, 24) by kernel_rfl)
  refine wpList_append_own_at _ hgd s x 67 ho B 28 i0 (.slice none 0 0) 1 24 (by kernel_rfl) hi hz0 hz1 hz2 rfl (by decide) v us.length us hs (hown.alloc _) ⟨w.heap.size, 0, none⟩ 1 1 [u1] hx rfl (fun j u hj => ?_) (fun u hu => ?_) (by unfold maxLen; omega) (by omega) (by rw [World.size_alloc]; omega) ?_
  · have hn := heap_new w (.cells #[u1] 28)
    have e3 : ((⟨w.heap.size, 0, none⟩ : Addr).add j) = ⟨w.heap.size, j, none⟩ := by
      unfold Addr.add
      by_cases hj : j = 0 <;> simp [hj]
    rw [e3]
    have e2 : (w.alloc (.cells #[u1] 28)).heap[w.heap.size]? = some (.cells #[u1] 28 (0, 0)) := hn
    simp only [World.cell?, e2]
    simpa using hj
  · rw [List.mem_singleton.1 hu]; exact h1
  · intro v' w' k1 k2 k3 k4
    have k1' : w'.ownsRow B 28 1 v' (us ++ [u1]).length (us ++ [u1]) := by rw [List.length_append]; exact k1
    obtain ⟨a', c', rfl⟩ := row_formW k1'
    refine h a' _ c' w' rfl k1' k2 (fun k hk => ?_)
    rcases k4 with k4 | k4
    · rw [k4] at hk; exact .inl hk
    · rw [k4, World.size_alloc] at hk
      cases hk
      exact .inr (Nat.le_refl _)
def flat3 (xs : List EntD) : List Value := (xs.map fun x => [x.vr, x.vq, x.vv]).flatten
theorem flat3_take {xs : List EntD} {t : Nat} {x : EntD} (h : xs[t]? = some x) : flat3 (xs.take (t + 1)) = flat3 (xs.take t) ++ [x.vr, x.vq, x.vv] := by
  have ht : t < xs.length := (List.getElem?_eq_some_iff.1 h).1
  rw [List.take_add_one, h]
  simp [flat3]
theorem flat3_len (xs : List EntD) : (flat3 xs).length = 3 * xs.length := by
  induction xs with
  | nil => rfl
  | cons x xs ih => simp only [flat3, List.map_cons, List.flatten_cons, List.length_append, List.length_cons, List.length_nil] at *; omega

end Go.Proofs.YthhkpkfpifllkaaGreat
