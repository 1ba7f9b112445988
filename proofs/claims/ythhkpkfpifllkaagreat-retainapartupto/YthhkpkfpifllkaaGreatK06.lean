import Derived.Test.YthhkpkfpifllkaaGreatK05
namespace Go.Proofs.YthhkpkfpifllkaaGreat
open Go.RowKit
set_option linter.unusedVariables false

def SBx (w : World) (b : Nat) (c0 v : Value) (cs : List Value) (ty : TypeId) : Prop := w.heap[b]? = some (.cells (c0 :: v :: cs).toArray ty (0, 0))
theorem SBx.c1 {w : World} {b : Nat} {c0 v : Value} {cs : List Value} {ty : TypeId} (h : SBx w b c0 v cs ty) : w.cell? ⟨b, 1, none⟩ = some v := by unfold SBx at h; simp [World.cell?, h]
theorem SBx.fz {w : World} {b : Nat} {c0 v : Value} {cs : List Value} {ty : TypeId} (h : SBx w b c0 v cs ty) (i : Nat) : w.frozen? ⟨b, i, none⟩ = false := by unfold SBx at h; simp [World.frozen?, h]
theorem SBx.lt {w : World} {b : Nat} {c0 v : Value} {cs : List Value} {ty : TypeId} (h : SBx w b c0 v cs ty) : b < w.heap.size := (Array.getElem?_eq_some_iff.1 h).1
theorem SBx.keep {w w' : World} {b : Nat} {c0 v : Value} {cs : List Value} {ty : TypeId} (h : SBx w b c0 v cs ty) (k : w'.heap[b]? = w.heap[b]?) : SBx w' b c0 v cs ty := k.trans h
theorem SBx.set1 {w : World} {b : Nat} {c0 v : Value} {cs : List Value} {ty : TypeId} (h : SBx w b c0 v cs ty) (u : Value) : SBx (w.setCell ⟨b, 1, none⟩ u) b c0 u cs ty := by
  unfold SBx at *
  simp [World.setCell, Array.getElem?_modify, h]
theorem O3.cells_one {w : World} {N : Nat} {x : EntD} (h : O3 w N x) : ∀ u ∈ x.cells.toList, u.oneCell' = true := by
  obtain ⟨a1, c1, e1⟩ := own_form' h.row
  obtain ⟨a2, c2, e2⟩ := own_form' h.qual
  obtain ⟨a3, c3, e3⟩ := own_form' h.val
  unfold EntD.cells
  rw [e1, e2, e3]
  intro u hu
  simp at hu
  rcases hu with rfl | rfl | rfl | rfl | rfl | rfl | rfl <;> rfl

theorem ent_new (w : World) (x : EntD) : ∀ j u, x.cells.toList[j]? = some u → (w.alloc (.cells x.cells 84)).cell? ((⟨w.heap.size, 0, none⟩ : Addr).add j) = some u := fun j u h => by
  have e := heap_new w (.cells x.cells 84)
  have e2 : (w.alloc (.cells x.cells 84)).heap[w.heap.size]? = some (.cells x.cells 84 (0, 0)) := e
  have e3 : ((⟨w.heap.size, 0, none⟩ : Addr).add j) = ⟨w.heap.size, j, none⟩ := by
    unfold Addr.add
    by_cases hj : j = 0 <;> simp [hj]
  rw [e3]
  simp only [World.cell?, e2]
  simpa using h
theorem wp_append_ent {w : World} {N : Nat} {v : Value} {xs : List EntD} {o : Oper} {a : Act} {K : Act → World → Prop} {Q : Exit → Act → World → Prop} {x : EntD} (s y : Operand)
    (ho : o.op = .call { callee := .builtin .append, args := #[s, y], argTypes := #[28, 28] })
    (hs : a.eval s = v) (hr : w.ownsRow N 84 7 v xs.length (evals xs)) (ad : Addr) (hy : a.eval y = .slice (some ad) 1 1) (hc : ∀ j u, x.cells.toList[j]? = some u → w.cell? (ad.add j) = some u) (h1 : ∀ u ∈ x.cells.toList, u.oneCell' = true) (hn : (xs.length + 1) * 104 ≤ 140737488355328) (hN : N ≤ w.heap.size)
    (h : ∀ a' c' w', w'.ownsRow N 84 7 (.slice a' (xs.length + 1) c') (xs ++ [x]).length (evals (xs ++ [x])) → w.grownBy w' v.ownBlock → (∀ k, (Value.slice a' (xs.length + 1) c').ownBlock = some k → v.ownBlock = some k ∨ k = w.heap.size) → K (a.put o.dst (.slice a' (xs.length + 1) c')) w') : Oper.wp Tryz.prog o a w K Q := by
  obtain ⟨v', w', hrn, h1', h2, h3⟩ := run_append_ent (ty := o.type) hr ad hc h1 hn hN
  obtain ⟨a', c', rfl⟩ := rows_form3 h1'
  have e : (xs ++ [x]).length = xs.length + 1 := by simp
  unfold Oper.wp execOp
  rw [ho]
  simp only [resolve, invoke, builtin, Sem.run_bind, Sem.run_pure, Result.andThen_ok, List.map_toArray, List.map_cons, List.map_nil, hs, hy, hrn]
  rw [e] at h1' h3 ⊢
  exact h a' c' w' (by rw [e]; exact h1') h2 h3

set_option maxRecDepth 100000 in
set_option maxHeartbeats 4000000 in
theorem add_any {W : World} {fb N : Nat} {c0 v : Value} {cs : List Value} {ty : TypeId} {xs : List EntD} {O : Nat → Prop} {e : EntD} (hb : SBx W fb c0 v cs ty) (hty : ty ≠ 84 ∧ ty ≠ 5) (hr : Rw W N v xs O) (hO : ∀ i, O i → i < W.heap.size) (hN : N ≤ W.heap.size) (he : EntD.Ok W e) (hl : e.row.length ≤ 256 ∧ e.qual.length ≤ 256 ∧ e.val.length ≤ 4096) (hn : (xs.length + 1) * 104 ≤ 140737488355328) :
    Calls Tryz.prog 105 #[.pointer (some ⟨fb, 0, none⟩), .agg e.cells] W fun r W' => r = .returned (.tuple #[]) ∧ ∃ u x O', SBx W' fb c0 u cs ty ∧ Rw W' N u (xs ++ [x]) O' ∧ x.dat = e.dat ∧ (∀ i, O' i → O i ∨ W.heap.size ≤ i) ∧ (∀ i, O' i → i < W'.heap.size) ∧ W'.os = W.os ∧ W'.tape = W.tape ∧ W'.output = W.output ∧ W.heap.size ≤ W'.heap.size ∧ (∀ i, i < W.heap.size → i ≠ fb → ¬ O i → W'.heap[i]? = W.heap[i]?) := by
  have A := (Below.refl W.heap.size W).alloc (Nat.le_refl _) (.cells e.cells 84)
  have eb := EBox.new W e
  obtain ⟨qb, hqb⟩ : ∃ q, q = W.heap.size := ⟨_, rfl⟩
  have hqb' := hqb.symm
  rw [← hqb] at eb
  obtain ⟨av, cv, ev⟩ := rows_form3 hr.row
  obtain ⟨nx, hnx⟩ : ∃ n, n = xs.length := ⟨_, rfl⟩
  rw [← hnx] at ev
  subst ev
  have rowne : (Value.slice av nx cv).ownBlock ≠ some fb := fun k => by
    rcases hr.row.2 with ⟨h1, _⟩ | ⟨g, cap, cur, h3, h4, h5, _⟩
    · rw [h1] at k; cases k
    · rw [h3] at k
      cases k
      unfold SBx at hb
      rw [hb] at h5
      cases h5
      exact hty.1 rfl
  have hrow1 : (Value.slice av nx cv).ownBlock ≠ some qb := fun k => by have := hO _ (hr.rowO _ k); omega
  obtain ⟨X, hX⟩ : ∃ X, X = W.alloc (.cells e.cells 84) := ⟨_, rfl⟩
  rw [← hX] at eb A
  have HX := Lib.hid hX
  have HA := Lib.hid A
  have hxs : X.heap.size = qb + 1 := by rw [hX, hqb]; simp
  have HXs := Lib.hid hxs
  have HU : Hid (∀ Z, Below X.heap.size X Z → SBx Z fb c0 (.slice av nx cv) cs ty ∧ EBox Z qb e ∧ Rw Z N (.slice av nx cv) xs O ∧ EntD.Ok Z e) := fun Z b => by
    have b2 := A.trans (b.mono A.size)
    exact ⟨hb.keep (b2.block fb hb.lt), eb.later b, hr.keep (fun i hi => b2.block i (hO i hi)), he.later b2⟩
  have HCl : Hid (∀ Z, Below X.heap.size X Z → Calls Tryz.prog 49 #[.agg e.cells] Z _) := fun Z b => clone3_own (HU.out Z b).2.2.2 ⟨by omega, by omega, by omega⟩
  have HNx := Lib.hid hnx
  have hfq : fb ≠ qb := by rw [hqb]; have := hb.lt; omega
  have HCx := Lib.hid (And.intro hO (And.intro hN hn))
  have HNe := Lib.hid (And.intro rowne hrow1)
  have HQb := Lib.hid hqb
  unfold EntD.cells at HX HCl ⊢
  clear A hX eb hqb hxs hnx hr hO hN hn he hl hb rowne hrow1
  have D0 : Below X.heap.size X X.drew := (Below.refl _ _).drew
  obtain ⟨b0, e0, r0, k0⟩ := HU.out _ D0
  have y1 := b0.c1
  have ye := e0.cells7
  clear b0 e0 r0 k0
  go_enter Tryz.func105, Tryz.ntmps105
  go_upto_region 1 with fail
  rw [← HX.out]
  (try rw [hqb'])
  clear hqb' HX
  have HS : Hid (∀ Z, Below X.heap.size X Z → Z.cell? ⟨fb, 1, none⟩ = some (.slice av nx cv) ∧ Z.cell? ⟨qb, 0, none⟩ = some e.vr ∧ Z.cell? ⟨qb, 1, none⟩ = some (.int .i64 e.fam) ∧ Z.cell? ⟨qb, 2, none⟩ = some e.vq ∧ Z.cell? ⟨qb, 3, none⟩ = some (.int .i64 e.ts) ∧ Z.cell? ⟨qb, 4, none⟩ = some (.int .i64 e.seq) ∧ Z.cell? ⟨qb, 5, none⟩ = some (.int .i64 e.kind) ∧ Z.cell? ⟨qb, 6, none⟩ = some e.vv) := fun Z b => ⟨(HU.out Z b).1.c1, (HU.out Z b).2.1.cells7⟩
  have hS := HS.out _ D0
  clear y1 ye
  refine wp_region_noPanic ?_
  refine wp_region_anyE (S := fun Z => Z.cell? ⟨fb, 1, none⟩ = some (.slice av nx cv) ∧ Z.cell? ⟨qb, 0, none⟩ = some e.vr ∧ Z.cell? ⟨qb, 1, none⟩ = some (.int .i64 e.fam) ∧ Z.cell? ⟨qb, 2, none⟩ = some e.vq ∧ Z.cell? ⟨qb, 3, none⟩ = some (.int .i64 e.ts) ∧ Z.cell? ⟨qb, 4, none⟩ = some (.int .i64 e.seq) ∧ Z.cell? ⟨qb, 5, none⟩ = some (.int .i64 e.kind) ∧ Z.cell? ⟨qb, 6, none⟩ = some e.vv) (E := fun j => decide (j < 11)) (by kernel_rfl) ?_
  refine AnyE.take (i := 0) (.pointer (some ⟨fb, 0, none⟩)) rfl (by kernel_rfl) (by kernel_rfl) (by kernel_rfl) (by kernel_rfl) (fun _ _ _ h => h) (.inl ⟨by rfl, fun wq hq => by go_simp⟩) hS ?_
  show AnyE _ _ _ _ _ _ 11 #[true, false, false, false, false, false, false, false, false, false, false, false] ⟨#[(.pointer (some ⟨fb, 0, none⟩)), (.agg #[e.vr, .int .i64 e.fam, e.vq, .int .i64 e.ts, .int .i64 e.seq, .int .i64 e.kind, e.vv]), undef, (.pointer (some ⟨qb, 0, none⟩)), (.pointer (some ⟨fb, 0, none⟩)), undef, undef, undef, undef, undef, undef, undef, undef, undef, undef], []⟩ X.drew
  refine AnyE.take (i := 1) (.pointer (some ⟨fb, 0, none⟩)) rfl (by kernel_rfl) (by kernel_rfl) (by kernel_rfl) (by kernel_rfl) (fun _ _ _ h => h) (.inl ⟨by rfl, fun wq hq => by go_simp⟩) hS ?_
  show AnyE _ _ _ _ _ _ 10 #[true, true, false, false, false, false, false, false, false, false, false, false] ⟨#[(.pointer (some ⟨fb, 0, none⟩)), (.agg #[e.vr, .int .i64 e.fam, e.vq, .int .i64 e.ts, .int .i64 e.seq, .int .i64 e.kind, e.vv]), undef, (.pointer (some ⟨qb, 0, none⟩)), (.pointer (some ⟨fb, 0, none⟩)), (.pointer (some ⟨fb, 0, none⟩)), undef, undef, undef, undef, undef, undef, undef, undef, undef], []⟩ X.drew
  refine AnyE.take (i := 2) (.pointer (some ⟨fb, 0, none⟩)) rfl (by kernel_rfl) (by kernel_rfl) (by kernel_rfl) (by kernel_rfl) (fun _ _ _ h => h) (.inl ⟨by rfl, fun wq hq => by go_simp⟩) hS ?_
  show AnyE _ _ _ _ _ _ 9 #[true, true, true, false, false, false, false, false, false, false, false, false] ⟨#[(.pointer (some ⟨fb, 0, none⟩)), (.agg #[e.vr, .int .i64 e.fam, e.vq, .int .i64 e.ts, .int .i64 e.seq, .int .i64 e.kind, e.vv]), undef, (.pointer (some ⟨qb, 0, none⟩)), (.pointer (some ⟨fb, 0, none⟩)), (.pointer (some ⟨fb, 0, none⟩)), (.pointer (some ⟨fb, 0, none⟩)), undef, undef, undef, undef, undef, undef, undef, undef], []⟩ X.drew
  refine AnyE.take (i := 3) (.pointer (some ⟨fb, 1, none⟩)) rfl (by kernel_rfl) (by kernel_rfl) (by kernel_rfl) (by kernel_rfl) (fun _ _ _ h => h) (.inl ⟨by rfl, fun wq hq => by go_simp⟩) hS ?_
  show AnyE _ _ _ _ _ _ 8 #[true, true, true, true, false, false, false, false, false, false, false, false] ⟨#[(.pointer (some ⟨fb, 0, none⟩)), (.agg #[e.vr, .int .i64 e.fam, e.vq, .int .i64 e.ts, .int .i64 e.seq, .int .i64 e.kind, e.vv]), undef, (.pointer (some ⟨qb, 0, none⟩)), (.pointer (some ⟨fb, 0, none⟩)), (.pointer (some ⟨fb, 0, none⟩)), (.pointer (some ⟨fb, 0, none⟩)), (.pointer (some ⟨fb, 1, none⟩)), undef, undef, undef, undef, undef, undef, undef], []⟩ X.drew
  refine AnyE.take (i := 4) (.slice av nx cv) rfl (by kernel_rfl) (by kernel_rfl) (by kernel_rfl) (by kernel_rfl) (fun _ _ _ h => h) (.inl ⟨by rfl, fun wq hq => by obtain ⟨q1, q20, q21, q22, q23, q24, q25, q26⟩ := hq; go_simp⟩) hS ?_
  show AnyE _ _ _ _ _ _ 7 #[true, true, true, true, true, false, false, false, false, false, false, false] ⟨#[(.pointer (some ⟨fb, 0, none⟩)), (.agg #[e.vr, .int .i64 e.fam, e.vq, .int .i64 e.ts, .int .i64 e.seq, .int .i64 e.kind, e.vv]), undef, (.pointer (some ⟨qb, 0, none⟩)), (.pointer (some ⟨fb, 0, none⟩)), (.pointer (some ⟨fb, 0, none⟩)), (.pointer (some ⟨fb, 0, none⟩)), (.pointer (some ⟨fb, 1, none⟩)), (.slice av nx cv), undef, undef, undef, undef, undef, undef], []⟩ X.drew
  refine AnyE.take (i := 5) (.agg #[e.vr, .int .i64 e.fam, e.vq, .int .i64 e.ts, .int .i64 e.seq, .int .i64 e.kind, e.vv]) rfl (by kernel_rfl) (by kernel_rfl) (by kernel_rfl) (by kernel_rfl) (fun _ _ _ h => h) (.inl ⟨by rfl, fun wq hq => by obtain ⟨q1, q20, q21, q22, q23, q24, q25, q26⟩ := hq; go_simp⟩) hS ?_
  show AnyE _ _ _ _ _ _ 6 #[true, true, true, true, true, true, false, false, false, false, false, false] ⟨#[(.pointer (some ⟨fb, 0, none⟩)), (.agg #[e.vr, .int .i64 e.fam, e.vq, .int .i64 e.ts, .int .i64 e.seq, .int .i64 e.kind, e.vv]), undef, (.pointer (some ⟨qb, 0, none⟩)), (.pointer (some ⟨fb, 0, none⟩)), (.pointer (some ⟨fb, 0, none⟩)), (.pointer (some ⟨fb, 0, none⟩)), (.pointer (some ⟨fb, 1, none⟩)), (.slice av nx cv), (.agg #[e.vr, .int .i64 e.fam, e.vq, .int .i64 e.ts, .int .i64 e.seq, .int .i64 e.kind, e.vv]), undef, undef, undef, undef, undef], []⟩ X.drew
  refine AnyE.one (i := 6) rfl (by kernel_rfl) (by rfl) (fun K1 hK1 => ?_)
  go_simp
  refine Calls.mono (HCl.out _ D0) ?_
  rintro z1 w1 ⟨x, rfl, sx, ok1, o31, b1⟩
  have D1 := D0.trans (b1.mono D0.size)
  have hS1 := HS.out _ D1
  have HSx := Lib.hid (EntD.dat_same.2 sx)
  have O31 := Lib.hid o31
  have B1 := Lib.hid b1
  obtain ⟨xr, xf, xq, xt, xs2, xk, xv, xrow, xqual, xval⟩ := x
  obtain ⟨ar, cr, er⟩ := own_form' o31.row
  obtain ⟨aq, cq, eq⟩ := own_form' o31.qual
  obtain ⟨aw, cw, ew⟩ := own_form' o31.val
  simp only at er eq ew
  subst er eq ew
  clear sx ok1 o31 b1
  refine hK1.out _ _ ⟨fun _ => hS1, ?_⟩
  clear hK1
  show AnyE _ _ _ _ _ _ 5 #[true, true, true, true, true, true, true, false, false, false, false, false] ⟨#[(.pointer (some ⟨fb, 0, none⟩)), (.agg #[e.vr, .int .i64 e.fam, e.vq, .int .i64 e.ts, .int .i64 e.seq, .int .i64 e.kind, e.vv]), undef, (.pointer (some ⟨qb, 0, none⟩)), (.pointer (some ⟨fb, 0, none⟩)), (.pointer (some ⟨fb, 0, none⟩)), (.pointer (some ⟨fb, 0, none⟩)), (.pointer (some ⟨fb, 1, none⟩)), (.slice av nx cv), (.agg #[e.vr, .int .i64 e.fam, e.vq, .int .i64 e.ts, .int .i64 e.seq, .int .i64 e.kind, e.vv]), (.agg #[.slice ar xrow.length cr, .int .i64 xf, .slice aq xqual.length cq, .int .i64 xt, .int .i64 xs2, .int .i64 xk, .slice aw xval.length cw]), undef, undef, undef, undef], []⟩ w1
  refine AnyE.one (i := 7) rfl (by kernel_rfl) (by rfl) (fun K2 hK2 => ?_)
  go_simp
  have D2 := D1.alloc D1.size (.cells #[.slice ar xrow.length cr, .int .i64 xf, .slice aq xqual.length cq, .int .i64 xt, .int .i64 xs2, .int .i64 xk, .slice aw xval.length cw] 84)
  refine hK2.out _ _ ⟨fun _ => HS.out _ D2, ?_⟩
  clear hK2
  show AnyE _ _ _ _ _ _ 4 #[true, true, true, true, true, true, true, true, false, false, false, false] ⟨#[(.pointer (some ⟨fb, 0, none⟩)), (.agg #[e.vr, .int .i64 e.fam, e.vq, .int .i64 e.ts, .int .i64 e.seq, .int .i64 e.kind, e.vv]), undef, (.pointer (some ⟨qb, 0, none⟩)), (.pointer (some ⟨fb, 0, none⟩)), (.pointer (some ⟨fb, 0, none⟩)), (.pointer (some ⟨fb, 0, none⟩)), (.pointer (some ⟨fb, 1, none⟩)), (.slice av nx cv), (.agg #[e.vr, .int .i64 e.fam, e.vq, .int .i64 e.ts, .int .i64 e.seq, .int .i64 e.kind, e.vv]), (.agg #[.slice ar xrow.length cr, .int .i64 xf, .slice aq xqual.length cq, .int .i64 xt, .int .i64 xs2, .int .i64 xk, .slice aw xval.length cw]), (.slice (some ⟨w1.heap.size, 0, none⟩) 1 1), undef, undef, undef], []⟩ (w1.alloc (.cells #[.slice ar xrow.length cr, .int .i64 xf, .slice aq xqual.length cq, .int .i64 xt, .int .i64 xs2, .int .i64 xk, .slice aw xval.length cw] 84))
  refine AnyE.one (i := 8) rfl (by kernel_rfl) (by rfl) (fun K3 hK3 => ?_)
  refine wp_append_ent (x := (⟨.slice ar xrow.length cr, xf, .slice aq xqual.length cq, xt, xs2, xk, .slice aw xval.length cw, xrow, xqual, xval⟩ : EntD)) (.tmp 8) (.tmp 11) rfl rfl (HU.out _ D2).2.2.1.row ⟨w1.heap.size, 0, none⟩ rfl (ent_new w1 (⟨.slice ar xrow.length cr, xf, .slice aq xqual.length cq, xt, xs2, xk, .slice aw xval.length cw, xrow, xqual, xval⟩ : EntD)) (O3.cells_one O31.out) HCx.out.2.2 (Nat.le_trans HCx.out.2.1 (Nat.le_trans HA.out.size D2.size)) ?_
  intro a2 c2 w2 ow2 gr2 lo2
  have hf2 : w2.heap[fb]? = (w1.alloc (.cells #[.slice ar xrow.length cr, .int .i64 xf, .slice aq xqual.length cq, .int .i64 xt, .int .i64 xs2, .int .i64 xk, .slice aw xval.length cw] 84)).heap[fb]? := gr2.block fb (Nat.lt_of_lt_of_le (HU.out X (Below.refl _ _)).1.lt D2.size) (fun z => HNe.out.1 z.symm)
  have he2 : w2.heap[qb]? = (w1.alloc (.cells #[.slice ar xrow.length cr, .int .i64 xf, .slice aq xqual.length cq, .int .i64 xt, .int .i64 xs2, .int .i64 xk, .slice aw xval.length cw] 84)).heap[qb]? := gr2.block qb (Nat.lt_of_lt_of_le (Array.getElem?_eq_some_iff.1 (HU.out X (Below.refl _ _)).2.1).1 D2.size) (fun z => HNe.out.2 z.symm)
  have SB2 : SBx w2 fb c0 (.slice av nx cv) cs ty := (HU.out _ D2).1.keep hf2
  have hS2 : w2.cell? ⟨fb, 1, none⟩ = some (.slice av nx cv) ∧ w2.cell? ⟨qb, 0, none⟩ = some e.vr ∧ w2.cell? ⟨qb, 1, none⟩ = some (.int .i64 e.fam) ∧ w2.cell? ⟨qb, 2, none⟩ = some e.vq ∧ w2.cell? ⟨qb, 3, none⟩ = some (.int .i64 e.ts) ∧ w2.cell? ⟨qb, 4, none⟩ = some (.int .i64 e.seq) ∧ w2.cell? ⟨qb, 5, none⟩ = some (.int .i64 e.kind) ∧ w2.cell? ⟨qb, 6, none⟩ = some e.vv := ⟨SB2.c1, EBox.cells7 (show EBox w2 qb e from he2.trans (HU.out _ D2).2.1)⟩
  refine hK3.out _ _ ⟨fun _ => hS2, ?_⟩
  clear hK3
  show AnyE _ _ _ _ _ _ 3 #[true, true, true, true, true, true, true, true, true, false, false, false] ⟨#[(.pointer (some ⟨fb, 0, none⟩)), (.agg #[e.vr, .int .i64 e.fam, e.vq, .int .i64 e.ts, .int .i64 e.seq, .int .i64 e.kind, e.vv]), undef, (.pointer (some ⟨qb, 0, none⟩)), (.pointer (some ⟨fb, 0, none⟩)), (.pointer (some ⟨fb, 0, none⟩)), (.pointer (some ⟨fb, 0, none⟩)), (.pointer (some ⟨fb, 1, none⟩)), (.slice av nx cv), (.agg #[e.vr, .int .i64 e.fam, e.vq, .int .i64 e.ts, .int .i64 e.seq, .int .i64 e.kind, e.vv]), (.agg #[.slice ar xrow.length cr, .int .i64 xf, .slice aq xqual.length cq, .int .i64 xt, .int .i64 xs2, .int .i64 xk, .slice aw xval.length cw]), (.slice (some ⟨w1.heap.size, 0, none⟩) 1 1), (.slice a2 (xs.length + 1) c2), undef, undef], []⟩ w2
  refine AnyE.one (i := 9) rfl (by kernel_rfl) (by rfl) (fun K5 hK5 => ?_)
  go_simp
  refine hK5.out _ _ ⟨fun _ => hS2, ?_⟩
  clear hK5
  show AnyE _ _ _ _ _ _ 2 #[true, true, true, true, true, true, true, true, true, true, false, false] ⟨#[(.pointer (some ⟨fb, 0, none⟩)), (.agg #[e.vr, .int .i64 e.fam, e.vq, .int .i64 e.ts, .int .i64 e.seq, .int .i64 e.kind, e.vv]), undef, (.pointer (some ⟨qb, 0, none⟩)), (.pointer (some ⟨fb, 0, none⟩)), (.pointer (some ⟨fb, 0, none⟩)), (.pointer (some ⟨fb, 0, none⟩)), (.pointer (some ⟨fb, 1, none⟩)), (.slice av nx cv), (.agg #[e.vr, .int .i64 e.fam, e.vq, .int .i64 e.ts, .int .i64 e.seq, .int .i64 e.kind, e.vv]), (.agg #[.slice ar xrow.length cr, .int .i64 xf, .slice aq xqual.length cq, .int .i64 xt, .int .i64 xs2, .int .i64 xk, .slice aw xval.length cw]), (.slice (some ⟨w1.heap.size, 0, none⟩) 1 1), (.slice a2 (xs.length + 1) c2), (.pointer (some ⟨fb, 0, none⟩)), undef], []⟩ w2
  refine AnyE.one (i := 10) rfl (by kernel_rfl) (by rfl) (fun K5 hK5 => ?_)
  go_simp
  refine hK5.out _ _ ⟨fun _ => hS2, ?_⟩
  clear hK5
  show AnyE _ _ _ _ _ _ 1 #[true, true, true, true, true, true, true, true, true, true, true, false] ⟨#[(.pointer (some ⟨fb, 0, none⟩)), (.agg #[e.vr, .int .i64 e.fam, e.vq, .int .i64 e.ts, .int .i64 e.seq, .int .i64 e.kind, e.vv]), undef, (.pointer (some ⟨qb, 0, none⟩)), (.pointer (some ⟨fb, 0, none⟩)), (.pointer (some ⟨fb, 0, none⟩)), (.pointer (some ⟨fb, 0, none⟩)), (.pointer (some ⟨fb, 1, none⟩)), (.slice av nx cv), (.agg #[e.vr, .int .i64 e.fam, e.vq, .int .i64 e.ts, .int .i64 e.seq, .int .i64 e.kind, e.vv]), (.agg #[.slice ar xrow.length cr, .int .i64 xf, .slice aq xqual.length cq, .int .i64 xt, .int .i64 xs2, .int .i64 xk, .slice aw xval.length cw]), (.slice (some ⟨w1.heap.size, 0, none⟩) 1 1), (.slice a2 (xs.length + 1) c2), (.pointer (some ⟨fb, 0, none⟩)), (.pointer (some ⟨fb, 1, none⟩))], []⟩ w2
  have y1 := SB2.c1
  have g1 := SB2.fz 1
  refine AnyE.one (i := 11) rfl (by kernel_rfl) (by rfl) (fun K4 hK4 => ?_)
  go_simp
  refine hK4.out _ _ ⟨fun h => (by cases h), ?_⟩
  clear hK4
  show AnyE _ _ _ _ _ _ 0 #[true, true, true, true, true, true, true, true, true, true, true, true] ⟨#[(.pointer (some ⟨fb, 0, none⟩)), (.agg #[e.vr, .int .i64 e.fam, e.vq, .int .i64 e.ts, .int .i64 e.seq, .int .i64 e.kind, e.vv]), undef, (.pointer (some ⟨qb, 0, none⟩)), (.pointer (some ⟨fb, 0, none⟩)), (.pointer (some ⟨fb, 0, none⟩)), (.pointer (some ⟨fb, 0, none⟩)), (.pointer (some ⟨fb, 1, none⟩)), (.slice av nx cv), (.agg #[e.vr, .int .i64 e.fam, e.vq, .int .i64 e.ts, .int .i64 e.seq, .int .i64 e.kind, e.vv]), (.agg #[.slice ar xrow.length cr, .int .i64 xf, .slice aq xqual.length cq, .int .i64 xt, .int .i64 xs2, .int .i64 xk, .slice aw xval.length cw]), (.slice (some ⟨w1.heap.size, 0, none⟩) 1 1), (.slice a2 (xs.length + 1) c2), (.pointer (some ⟨fb, 0, none⟩)), (.pointer (some ⟨fb, 1, none⟩))], []⟩ (w2.setCell ⟨fb, 1, none⟩ (.slice a2 (xs.length + 1) c2))
  refine AnyE.done (by kernel_rfl) (NoPanic.normal ?_) _
  have HFin := Lib.hid (And.intro SB2 (And.intro ow2 (And.intro gr2 lo2)))
  have HD1 := Lib.hid D1
  have HD2 := Lib.hid D2
  clear SB2 ow2 gr2 lo2 y1 g1 hS hS1 hS2 D0 D1 D2 hf2 he2
  go_wp2
  go_end0
  obtain ⟨SB2, ow2, gr2, lo2⟩ := HFin.out
  have D2 := HD2.out
  have D1 := HD1.out
  have AW2 := HA.out.trans (D2.mono HA.out.size)
  obtain ⟨WZ, hWZ⟩ : ∃ WZ : World, WZ = w1.alloc (.cells #[.slice ar xrow.length cr, .int .i64 xf, .slice aq xqual.length cq, .int .i64 xt, .int .i64 xs2, .int .i64 xk, .slice aw xval.length cw] 84) := ⟨_, rfl⟩
  rw [← hWZ] at gr2 lo2 D2 AW2
  obtain ⟨_, _, R2, _⟩ := HU.out _ D2
  have hO := HCx.out.1
  have tyR : ∀ g, (Value.slice av nx cv).ownBlock = some g → ∃ cur fr, WZ.heap[g]? = some (.cells cur 84 fr) := fun g hg => by
    rcases R2.row.2 with ⟨h1, _⟩ | ⟨g', cap, cur, h3, h4, h5, _⟩
    · rw [h1] at hg; cases hg
    · rw [h3] at hg; cases hg; exact ⟨cur, _, h5⟩
  have kG : ∀ (g : Nat) (cur : Array Value) (fr : Nat × Nat), WZ.heap[g]? = some (.cells cur 5 fr) → (w2.setCell ⟨fb, 1, none⟩ (.slice a2 (xs.length + 1) c2)).heap[g]? = WZ.heap[g]? := fun g cur fr hg => by
    have hgl := (Array.getElem?_eq_some_iff.1 hg).1
    have h1 : w2.heap[g]? = WZ.heap[g]? := gr2.block g hgl (fun z => by
      obtain ⟨c', f', h'⟩ := tyR g z.symm
      rw [hg] at h'; cases h')
    rw [← h1]
    refine Below.heap_setCell _ _ _ _ (fun z => ?_)
    subst z
    rw [← h1] at hg
    unfold SBx at SB2
    rw [SB2] at hg
    cases hg
    exact hty.2 rfl
  have hdW : X.drew.heap.size = X.heap.size := rfl
  have O3n : O3 WZ X.heap.size (⟨.slice ar xrow.length cr, xf, .slice aq xqual.length cq, xt, xs2, xk, .slice aw xval.length cw, xrow, xqual, xval⟩ : EntD) := by rw [hWZ]; exact O31.out.later ((Below.refl _ _).alloc (Nat.le_refl _) _)
  have sWX : W.heap.size ≤ X.heap.size := HA.out.size
  have sX2 : X.heap.size ≤ WZ.heap.size := D2.size
  have s22 : WZ.heap.size ≤ w2.heap.size := gr2.size
  have sF : (w2.setCell ⟨fb, 1, none⟩ (.slice a2 (xs.length + 1) c2)).heap.size = w2.heap.size := by simp
  have NX : N ≤ X.heap.size := Nat.le_trans HCx.out.2.1 sWX
  have rlt := fun k hk => (ow2.lt k hk)
  refine ⟨rfl, _, (⟨.slice ar xrow.length cr, xf, .slice aq xqual.length cq, xt, xs2, xk, .slice aw xval.length cw, xrow, xqual, xval⟩ : EntD), fun i => (O i ∨ W.heap.size ≤ i) ∧ i < (w2.setCell ⟨fb, 1, none⟩ (.slice a2 (xs.length + 1) c2)).heap.size, SB2.set1 _, ⟨?_, ?_, ?_, ?_, ?_⟩, HSx.out, fun i h => h.1, fun i h => h.2, ?_, ?_, ?_, ?_, ?_⟩
  · refine row_same ow2 (fun g hg => Below.heap_setCell _ _ _ _ (fun z => ?_))
    subst z
    rcases ow2.2 with ⟨h1, _⟩ | ⟨g', cap, cur, h3, h4, h5, _⟩
    · rw [h1] at hg; cases hg
    · rw [h3] at hg
      cases hg
      unfold SBx at SB2
      rw [SB2] at h5
      cases h5
      exact hty.1 rfl
  · intro y hy
    rcases List.mem_append.1 hy with hy | hy
    · exact (R2.ents y hy).same (fun g _ _ ⟨cur, fr, hg⟩ => kG g cur fr hg)
    · simp only [List.mem_singleton] at hy
      subst hy
      exact (O3n.same (fun g _ _ ⟨cur, fr, hg⟩ => kG g cur fr hg)).mono NX
  · rw [List.pairwise_append]
    refine ⟨R2.ap, by simp, fun y hy z hz => ?_⟩
    simp only [List.mem_singleton] at hz
    subst hz
    intro g hg hg2
    have h1 := hO g (R2.entO y hy g hg)
    have h2 := (O3n.lt g hg2).1
    omega
  · intro k hk
    have h2 := (rlt k hk).2
    rcases lo2 k hk with h1 | h1
    · exact ⟨.inl (R2.rowO k h1), by rw [sF]; exact h2⟩
    · exact ⟨.inr (by omega), by rw [sF]; exact h2⟩
  · intro y hy k hk
    rcases List.mem_append.1 hy with hy | hy
    · have := R2.entO y hy k hk
      exact ⟨.inl this, by have := hO k this; omega⟩
    · simp only [List.mem_singleton] at hy
      subst hy
      have := O3n.lt k hk
      exact ⟨.inr (by omega), by omega⟩
  · exact gr2.os.trans AW2.os
  · exact gr2.tape.trans AW2.tape
  · exact gr2.output.trans AW2.output
  · omega
  · intro i hi h1 h2
    rw [Below.heap_setCell _ _ _ _ (fun z => h1 z), gr2.block i (by omega) (fun z => h2 (R2.rowO i z.symm)), AW2.block i hi]
end Go.Proofs.YthhkpkfpifllkaaGreat

namespace Go.Proofs.YthhkpkfpifllkaaGreat
open Go.RowKit
set_option linter.unusedVariables false

def staysS (major : Bool) (low : Int) (v : Vd) : Bool := if v.fate = 5 then true else if v.fate = 6 then !major else if v.fate = 7 then !major || decide (low < v.e.ts) else false
structure Ct where
  o : Int
  m : Int
  x : Int
  a : Int
  k : Int
def Ct.inc (c : Ct) (ft : Int) : Ct := if ft = 1 then { c with o := c.o + 1 } else if ft = 2 then { c with m := c.m + 1 } else if ft = 3 then { c with x := c.x + 1 } else if ft = 4 then { c with a := c.a + 1 } else { c with k := c.k + 1 }
def Ct.Ok (c : Ct) (n : Nat) : Prop := (0 ≤ c.o ∧ c.o ≤ n) ∧ (0 ≤ c.m ∧ c.m ≤ n) ∧ (0 ≤ c.x ∧ c.x ≤ n) ∧ (0 ≤ c.a ∧ c.a ≤ n) ∧ (0 ≤ c.k ∧ c.k ≤ n)
theorem Ct.Ok.inc {c : Ct} {n : Nat} (h : c.Ok n) (ft : Int) : (c.inc ft).Ok (n + 1) := by
  obtain ⟨h1, h2, h3, h4, h5⟩ := h
  unfold Ct.inc Ct.Ok
  repeat' split
  all_goals (simp only; omega)
theorem Ct.Ok.mono {c : Ct} {n m : Nat} (h : c.Ok n) (k : n ≤ m) : c.Ok m := by
  obtain ⟨h1, h2, h3, h4, h5⟩ := h
  unfold Ct.Ok
  omega
def fBc (major : Bool) (low : Int) (c : Ct) : List Value := [.bool major, .int .i64 low, .int .i64 c.o, .int .i64 c.m, .int .i64 c.x, .int .i64 c.a, .int .i64 c.k]
theorem SBx.at {w : World} {b : Nat} {c0 v : Value} {cs : List Value} {ty : TypeId} (h : SBx w b c0 v cs ty) (i : Nat) : w.cell? ⟨b, i + 2, none⟩ = cs[i]? := by unfold SBx at h; simp [World.cell?, h]
theorem SBx.later {w w' : World} {b : Nat} {c0 v : Value} {cs : List Value} {ty : TypeId} (h : SBx w b c0 v cs ty) (k : Below w.heap.size w w') : SBx w' b c0 v cs ty := h.keep (k.block b h.lt)
theorem SBx.setN {w : World} {b : Nat} {c0 v u : Value} {cs ds : List Value} {ty : TypeId} (h : SBx w b c0 v cs ty) (i : Nat) (e : cs.set i u = ds) : SBx (w.setCell ⟨b, i + 2, none⟩ u) b c0 v ds ty := by
  unfold SBx at *
  subst e
  simp [World.setCell, Array.getElem?_modify, h]
section
variable {W : World} {fb : Nat} {c0 ov : Value} {major : Bool} {low : Int} {ct : Ct} {e : EntD}

set_option maxRecDepth 100000 in
set_option maxHeartbeats 4000000 in
theorem stays_any (hb : SBx W fb c0 ov (fBc major low ct) 107) (ft rk : Int) :
    Calls Tryz.prog 104 #[.pointer (some ⟨fb, 0, none⟩), vdV e ft rk] W fun r w' => r = .returned (.bool (staysS major low ⟨e.dat, ft, rk⟩)) ∧ Below W.heap.size W w' := by
  obtain ⟨R, hR⟩ : ∃ R, R = staysS major low ⟨e.dat, ft, rk⟩ := ⟨_, rfl⟩
  rw [← hR]
  have HR : Hid (R = if ft = 5 then true else if ft = 6 then !major else if ft = 7 then !major || decide (low < e.ts) else false) := hR
  clear hR
  have A := (Below.refl W.heap.size W).alloc (Nat.le_refl _) (.cells #[e.vr, .int .i64 e.fam, e.vq, .int .i64 e.ts, .int .i64 e.seq, .int .i64 e.kind, e.vv, .int .i64 ft, .int .i64 rk] 152)
  have vb : VBx (W.alloc (.cells #[e.vr, .int .i64 e.fam, e.vq, .int .i64 e.ts, .int .i64 e.seq, .int .i64 e.kind, e.vv, .int .i64 ft, .int .i64 rk] 152)) W.heap.size e ft rk := heap_new W _
  obtain ⟨X, hX⟩ : ∃ X, X = W.alloc (.cells #[e.vr, .int .i64 e.fam, e.vq, .int .i64 e.ts, .int .i64 e.seq, .int .i64 e.kind, e.vv, .int .i64 ft, .int .i64 rk] 152) := ⟨_, rfl⟩
  rw [← hX] at A vb
  obtain ⟨qb, hqb⟩ : ∃ q, q = W.heap.size := ⟨_, rfl⟩
  have hqb' := hqb.symm
  rw [← hqb] at vb
  have hb1 := hb.later A
  have x7 := vb.all.2.2.2.2.2.2.2.1
  have x3 := vb.all.2.2.2.1
  have y2 := hb1.at 0
  have y3 := hb1.at 1
  simp only [fBc, Nat.zero_add, Nat.reduceAdd, List.getElem?_cons_zero, List.getElem?_cons_succ] at y2 y3
  have HX := Lib.hid hX
  have HA := Lib.hid A
  unfold vdV
  rw [hX] at x7 x3 y2 y3
  clear hX A vb hb hb1 hqb
  go_enter Tryz.func104, Tryz.ntmps104
  by_cases h5 : ft = 5
  · have b5 : (ft == 5) = true := by simp [h5]
    have H5 := Lib.hid h5
    clear h5
    go_wp2
    go_ret
    exact ⟨by rw [HR.out, if_pos H5.out]; rfl, by rw [← HX.out]; exact HA.out⟩
  · have b5 : (ft == 5) = false := by simp [h5]
    have H5 := Lib.hid h5
    clear h5
    by_cases h6 : ft = 6
    · have b6 : (ft == 6) = true := by simp [h6]
      have H6 := Lib.hid h6
      clear h6
      go_wp2
      go_ret
      exact ⟨by rw [HR.out, if_neg H5.out, if_pos H6.out]; rfl, by rw [← HX.out]; exact HA.out⟩
    · have b6 : (ft == 6) = false := by simp [h6]
      have H6 := Lib.hid h6
      clear h6
      by_cases h7 : ft = 7
      · have b7 : (ft == 7) = true := by simp [h7]
        have H7 := Lib.hid h7
        clear h7
        cases major with
        | true =>
          go_upto_region 7 with fail
          rw [← HX.out] at x3 y2 y3 ⊢
          go_quiet (fail)
          go_wp2
          go_ret
          exact ⟨by rw [HR.out, if_neg H5.out, if_neg H6.out, if_pos H7.out]; simp, HA.out.trans ((below_dn (Below.refl _ _) _).mono HA.out.size)⟩
        | false =>
          go_upto_region 7 with fail
          rw [← HX.out] at x3 y2 y3 ⊢
          go_quiet (fail)
          go_wp2
          go_ret
          exact ⟨by rw [HR.out, if_neg H5.out, if_neg H6.out, if_pos H7.out]; simp, HA.out.trans ((below_dn (Below.refl _ _) _).mono HA.out.size)⟩
      · have b7 : (ft == 7) = false := by simp [h7]
        have H7 := Lib.hid h7
        clear h7
        go_wp2
        go_ret
        exact ⟨by rw [HR.out, if_neg H5.out, if_neg H6.out, if_neg H7.out]; rfl, by rw [← HX.out]; exact HA.out⟩

set_option maxRecDepth 100000 in
set_option maxHeartbeats 4000000 in
theorem count_any {n : Nat} (hb : SBx W fb c0 ov (fBc major low ct) 107) (hc : ct.Ok n) (hn : n < 1353245080339) (ft : Int) :
    Calls Tryz.prog 106 #[.pointer (some ⟨fb, 0, none⟩), .int .i64 ft] W fun r w' => r = .returned (.tuple #[]) ∧ SBx w' fb c0 ov (fBc major low (ct.inc ft)) 107 ∧ W.grownBy w' (some fb) := by
  obtain ⟨⟨o0, o1⟩, ⟨m0, m1⟩, ⟨x0, x1⟩, ⟨a0, a1⟩, k0, k1⟩ := hc
  have HB := Lib.hid hb
  have y4 := hb.at 2
  have y5 := hb.at 3
  have y6 := hb.at 4
  have y7 := hb.at 5
  have y8 := hb.at 6
  simp only [fBc, Nat.reduceAdd, List.getElem?_cons_zero, List.getElem?_cons_succ] at y4 y5 y6 y7 y8
  have f4 := hb.fz 4
  have f5 := hb.fz 5
  have f6 := hb.fz 6
  have f7 := hb.fz 7
  have f8 := hb.fz 8
  clear hb
  go_enter Tryz.func106, Tryz.ntmps106
  by_cases h1 : ft = 1
  · have b1 : (ft == 1) = true := by simp [h1]
    have H1 := Lib.hid h1
    clear h1
    go_wp2
    go_end0
    refine ⟨rfl, ?_, grown1 _ _ _ _⟩
    have q : ct.inc ft = { ct with o := ct.o + 1 } := by unfold Ct.inc; rw [if_pos H1.out]
    rw [q]
    exact HB.out.setN 2 rfl
  · have b1 : (ft == 1) = false := by simp [h1]
    have H1 := Lib.hid h1
    clear h1
    by_cases h2 : ft = 2
    · have b2 : (ft == 2) = true := by simp [h2]
      have H2 := Lib.hid h2
      clear h2
      go_wp2
      go_end0
      refine ⟨rfl, ?_, grown1 _ _ _ _⟩
      have q : ct.inc ft = { ct with m := ct.m + 1 } := by unfold Ct.inc; rw [if_neg H1.out, if_pos H2.out]
      rw [q]
      exact HB.out.setN 3 rfl
    · have b2 : (ft == 2) = false := by simp [h2]
      have H2 := Lib.hid h2
      clear h2
      by_cases h3 : ft = 3
      · have b3 : (ft == 3) = true := by simp [h3]
        have H3 := Lib.hid h3
        clear h3
        go_wp2
        go_end0
        refine ⟨rfl, ?_, grown1 _ _ _ _⟩
        have q : ct.inc ft = { ct with x := ct.x + 1 } := by unfold Ct.inc; rw [if_neg H1.out, if_neg H2.out, if_pos H3.out]
        rw [q]
        exact HB.out.setN 4 rfl
      · have b3 : (ft == 3) = false := by simp [h3]
        have H3 := Lib.hid h3
        clear h3
        by_cases h4 : ft = 4
        · have b4 : (ft == 4) = true := by simp [h4]
          have H4 := Lib.hid h4
          clear h4
          go_wp2
          go_end0
          refine ⟨rfl, ?_, grown1 _ _ _ _⟩
          have q : ct.inc ft = { ct with a := ct.a + 1 } := by unfold Ct.inc; rw [if_neg H1.out, if_neg H2.out, if_neg H3.out, if_pos H4.out]
          rw [q]
          exact HB.out.setN 5 rfl
        · have b4 : (ft == 4) = false := by simp [h4]
          have H4 := Lib.hid h4
          clear h4
          go_wp2
          go_end0
          refine ⟨rfl, ?_, grown1 _ _ _ _⟩
          have q : ct.inc ft = { ct with k := ct.k + 1 } := by unfold Ct.inc; rw [if_neg H1.out, if_neg H2.out, if_neg H3.out, if_neg H4.out]
          rw [q]
          exact HB.out.setN 6 rfl
end
end Go.Proofs.YthhkpkfpifllkaaGreat

namespace Go.Proofs.YthhkpkfpifllkaaGreat
open Go.RowKit
set_option linter.unusedVariables false

def outS (major : Bool) (low : Int) (vs : List Vd) : List En := (vs.filter (staysS major low)).map Vd.e
def cntS (major : Bool) (low : Int) (vs : List Vd) : Ct := vs.foldl (fun c v => if staysS major low v then c else c.inc v.fate) ⟨0, 0, 0, 0, 0⟩
theorem outS_snoc (major : Bool) (low : Int) (vs : List Vd) (v : Vd) : outS major low (vs ++ [v]) = if staysS major low v then outS major low vs ++ [v.e] else outS major low vs := by
  unfold outS
  rw [List.filter_append, List.map_append]
  by_cases h : staysS major low v = true
  · simp [h]
  · simp [h]
theorem cntS_snoc (major : Bool) (low : Int) (vs : List Vd) (v : Vd) : cntS major low (vs ++ [v]) = if staysS major low v then cntS major low vs else (cntS major low vs).inc v.fate := by
  unfold cntS
  rw [List.foldl_append]
  rfl
structure TF (hd : List En) (fb N : Nat) (c0 : Value) (major : Bool) (low : Int) (W : World) (O : Nat → Prop) (vs : List Vd) : Prop where
  st : ∃ xs ov Or, SBx W fb c0 ov (fBc major low (cntS major low vs)) 107 ∧ Rw W N ov xs Or ∧ ¬ Or fb ∧ (∀ i, Or i → O i) ∧ hd ++ xs.map EntD.dat = outS major low vs
  ok : (cntS major low vs).Ok vs.length
  of : O fb
  lt : ∀ i, O i → i < W.heap.size
  low : N ≤ W.heap.size

set_option maxRecDepth 100000 in
set_option maxHeartbeats 4000000 in
theorem keep_any3 {W : World} {hd : List En} {fb N : Nat} {c0 : Value} {major : Bool} {low : Int} {O : Nat → Prop} {vs : List Vd} {e : EntD} {n : Nat} (ft rk : Int) (h : TF hd fb N c0 major low W O vs) (he : EntD.Ok W e) (hf : Fit n e.dat) (hv : vs.length < 1353245080339) :
    Calls Tryz.prog 70 #[.pointer (some ⟨fb, 0, none⟩), vdV e ft rk] W fun r W' => r = .returned (.tuple #[]) ∧ ∃ O', TF hd fb N c0 major low W' O' (vs ++ [⟨e.dat, ft, rk⟩]) ∧ Tf W W' O O' := by
  obtain ⟨xs, ov, Or, hb, hr, hno, hsub, hx⟩ := h.st
  have hxl : xs.length ≤ vs.length := by
    have := congrArg List.length hx
    simp only [List.length_append, List.length_map, outS] at this
    have := List.length_filter_le (staysS major low) vs
    omega
  have A := (Below.refl W.heap.size W).alloc (Nat.le_refl _) (.cells #[e.vr, .int .i64 e.fam, e.vq, .int .i64 e.ts, .int .i64 e.seq, .int .i64 e.kind, e.vv, .int .i64 ft, .int .i64 rk] 152)
  have vb : VBx (W.alloc (.cells #[e.vr, .int .i64 e.fam, e.vq, .int .i64 e.ts, .int .i64 e.seq, .int .i64 e.kind, e.vv, .int .i64 ft, .int .i64 rk] 152)) W.heap.size e ft rk := heap_new W _
  obtain ⟨X, hX⟩ : ∃ X, X = W.alloc (.cells #[e.vr, .int .i64 e.fam, e.vq, .int .i64 e.ts, .int .i64 e.seq, .int .i64 e.kind, e.vv, .int .i64 ft, .int .i64 rk] 152) := ⟨_, rfl⟩
  rw [← hX] at A vb
  obtain ⟨qb, hqb⟩ : ∃ q, q = W.heap.size := ⟨_, rfl⟩
  have hqb' := hqb.symm
  rw [← hqb] at vb
  have HU : Hid (∀ Z, Below X.heap.size X Z → SBx Z fb c0 ov (fBc major low (cntS major low vs)) 107 ∧ Rw Z N ov xs Or ∧ VBx Z qb e ft rk ∧ EntD.Ok Z e ∧ Below W.heap.size W Z) := fun Z b => by
    have b2 := A.trans (b.mono A.size)
    exact ⟨hb.keep (b2.block fb hb.lt), hr.keep (fun i hi => b2.block i (h.lt i (hsub i hi))), vb.keep (b.block _ vb.lt), he.later b2, b2⟩
  have HC1 := Lib.hid (stays_any (e := e) (HU.out X (Below.refl _ _)).1 ft rk)
  obtain ⟨R, hR⟩ : ∃ R, R = staysS major low ⟨e.dat, ft, rk⟩ := ⟨_, rfl⟩
  rw [← hR] at HC1
  have HR := Lib.hid hR
  have HX := Lib.hid hX
  have HH := Lib.hid h
  have HL : Hid (e.row.length ≤ 256 ∧ e.qual.length ≤ 256 ∧ e.val.length ≤ 4096) := ⟨hf.row, hf.qual, hf.val⟩
  have HQ := Lib.hid hqb
  have HXx := Lib.hid (And.intro hx hxl)
  have HN := Lib.hid hno
  have HS := Lib.hid hsub
  have hfq : fb ≠ qb := by rw [hqb]; have := hb.lt; omega
  have xv := vb.all
  rw [hX] at xv
  obtain ⟨x0, x1, x2, x3, x4, x5, x6, x7, x8⟩ := xv
  unfold vdV at HC1 ⊢
  clear hX A vb hb hr hx hxl h he hf hqb hR hno hsub
  go_enter Tryz.func70, Tryz.ntmps70
  go_wp2_with fail
  rw [← HX.out]
  (try rw [hqb'])
  refine Calls.mono HC1.out ?_
  rintro z X1 ⟨rfl, b1⟩
  clear x0 x1 x2 x3 x4 x5 x6 x7 x8 HC1 HX hqb'
  have HB1 := Lib.hid b1
  clear b1
  cases R with
  | true =>
    have D1 : Below X1.heap.size X1 X1.drew := (Below.refl _ _).drew
    have E1 := HB1.out.trans (D1.mono HB1.out.size)
    obtain ⟨sb, rw1, vb1, ok1, bw1⟩ := HU.out _ E1
    have HC2 := Lib.hid (add_any sb ⟨by decide, by decide⟩ rw1 (fun i hi => Nat.lt_of_lt_of_le (HH.out.lt i (HS.out i hi)) bw1.size) (Nat.le_trans HH.out.low bw1.size) ok1 HL.out (by have := HXx.out.2; omega))
    have HV1 := Lib.hid vb1
    have HBw := Lib.hid bw1
    obtain ⟨x0, x1, x2, x3, x4, x5, x6, x7, x8⟩ := vb1.all
    unfold EntD.cells at HC2
    clear sb rw1 vb1 ok1 bw1 D1
    go_upto_region 2 with fail
    go_region_held3 (fun Z => Z.cell? ⟨qb, 0, none⟩ = some e.vr ∧ Z.cell? ⟨qb, 1, none⟩ = some (.int .i64 e.fam) ∧ Z.cell? ⟨qb, 2, none⟩ = some e.vq ∧ Z.cell? ⟨qb, 3, none⟩ = some (.int .i64 e.ts) ∧ Z.cell? ⟨qb, 4, none⟩ = some (.int .i64 e.seq) ∧ Z.cell? ⟨qb, 5, none⟩ = some (.int .i64 e.kind) ∧ Z.cell? ⟨qb, 6, none⟩ = some e.vv) (first | exact ⟨v3.all.1, v3.all.2.1, v3.all.2.2.1, v3.all.2.2.2.1, v3.all.2.2.2.2.1, v3.all.2.2.2.2.2.1, v3.all.2.2.2.2.2.2.1⟩ | exact ⟨x0, x1, x2, x3, x4, x5, x6⟩)
      ((go_at_call 105; refine Calls.mono HC2.out ?_; rintro z2 X2 ⟨rfl, u, x, O2, sb2, rw2, dx, own2, lt2, os2, tp2, op2, sz2, bl2⟩; have v3 := HV1.out.keep (bl2 qb HV1.out.lt (Ne.symm hfq) (fun k => by have := HH.out.lt qb (HS.out _ k); have := HQ.out; omega))))
    have HF := Lib.hid (And.intro sb2 (And.intro rw2 (And.intro dx (And.intro own2 (And.intro lt2 (And.intro os2 (And.intro tp2 (And.intro op2 (And.intro sz2 bl2)))))))))
    clear sb2 rw2 dx own2 lt2 os2 tp2 op2 sz2 bl2 v3 x0 x1 x2 x3 x4 x5 x6 x7 x8
    go_wp2
    refine bodyPost_ret (results_none rfl _ _ _) rfl ?_
    obtain ⟨sb2, rw2, dx, own2, lt2, os2, tp2, op2, sz2, bl2⟩ := HF.out
    have bw := HBw.out
    have e1 := cntS_snoc major low vs ⟨e.dat, ft, rk⟩
    have e2 := outS_snoc major low vs ⟨e.dat, ft, rk⟩
    rw [← HR.out] at e1 e2
    simp only [if_true] at e1 e2
    have lf : fb < W.heap.size := HH.out.lt fb HH.out.of
    refine ⟨rfl, fun i => O2 i ∨ i = fb, ⟨⟨xs ++ [x], u, O2, by rw [e1]; exact sb2, rw2, fun k => ?_, fun i hi => .inl hi, by rw [e2, List.map_append, ← List.append_assoc, HXx.out.1, ← dx]; rfl⟩, by rw [e1]; exact HH.out.ok.mono (by simp), .inr rfl, fun i hi => ?_, ?_⟩, ⟨os2.trans bw.os, tp2.trans bw.tape, op2.trans bw.output, Nat.le_trans bw.size sz2, fun i hi hn => ?_, fun i hi => ?_⟩⟩
    · rcases own2 fb k with k | k
      · exact HN.out k
      · have := bw.size; omega
    · rcases hi with hi | rfl
      · exact lt2 i hi
      · exact Nat.lt_of_lt_of_le lf (Nat.le_trans bw.size sz2)
    · exact Nat.le_trans HH.out.low (Nat.le_trans bw.size sz2)
    · rw [bl2 i (Nat.lt_of_lt_of_le hi bw.size) (fun z => hn (by rw [z]; exact HH.out.of)) (fun z => hn (HS.out i z))]
      exact bw.block i hi
    · rcases hi with hi | rfl
      · rcases own2 i hi with k | k
        · exact .inl (HS.out i k)
        · exact .inr (Nat.le_trans bw.size k)
      · exact .inl HH.out.of
  | false =>
    obtain ⟨sb, rw1, vb1, ok1, bw1⟩ := HU.out _ HB1.out
    have HC2 := Lib.hid (count_any sb HH.out.ok hv ft)
    have HBw := Lib.hid bw1
    have HRw := Lib.hid rw1
    obtain ⟨x0, x1, x2, x3, x4, x5, x6, x7, x8⟩ := vb1.all
    clear sb rw1 vb1 ok1 bw1
    go_wp2_with fail
    refine Calls.mono HC2.out ?_
    rintro z2 X2 ⟨rfl, sb2, gr2⟩
    have HF := Lib.hid (And.intro sb2 gr2)
    clear sb2 gr2 x0 x1 x2 x3 x4 x5 x6 x7 x8
    go_wp2
    go_end0
    obtain ⟨sb2, gr2⟩ := HF.out
    have bw := HBw.out
    have e1 := cntS_snoc major low vs ⟨e.dat, ft, rk⟩
    have e2 := outS_snoc major low vs ⟨e.dat, ft, rk⟩
    rw [← HR.out] at e1 e2
    simp only [Bool.false_eq_true, if_false] at e1 e2
    have lf : fb < W.heap.size := HH.out.lt fb HH.out.of
    have sz := Nat.le_trans bw.size gr2.size
    refine ⟨rfl, O, ⟨⟨xs, ov, Or, by rw [e1]; exact sb2, HRw.out.keep (fun i hi => gr2.block i (Nat.lt_of_lt_of_le (HH.out.lt i (HS.out i hi)) bw.size) (fun z => by cases z; exact HN.out hi)), HN.out, HS.out, by rw [e2]; exact HXx.out.1⟩, ?_, HH.out.of, fun i hi => Nat.lt_of_lt_of_le (HH.out.lt i hi) sz, Nat.le_trans HH.out.low sz⟩, ⟨gr2.os.trans bw.os, gr2.tape.trans bw.tape, gr2.output.trans bw.output, sz, fun i hi hn => ?_, fun i hi => .inl hi⟩⟩
    · rw [e1, List.length_append]
      exact HH.out.ok.inc ft
    · rw [gr2.block i (Nat.lt_of_lt_of_le hi bw.size) (fun z => by cases z; exact hn HH.out.of)]
      exact bw.block i hi
theorem filter_teller (hd : List En) (fb N : Nat) (c0 : Value) (major : Bool) (low : Int) : Teller 70 fb (TF hd fb N c0 major low) where
  enters := enters_of Tryz.func70 (by kernel_rfl) rfl
  keep := fun {W W' O vs} h k sz => by
    obtain ⟨xs, ov, Or, hb, hr, hno, hsub, hx⟩ := h.st
    exact ⟨⟨xs, ov, Or, hb.keep (k fb h.of), hr.keep (fun i hi => k i (hsub i hi)), hno, hsub, hx⟩, h.ok, h.of, fun i hi => Nat.lt_of_lt_of_le (h.lt i hi) sz, Nat.le_trans h.low sz⟩
  lt := fun h hi => h.lt _ hi
  say := fun {W O vs e} ft rk {n} h he hf hv => keep_any3 ft rk h he hf hv
end Go.Proofs.YthhkpkfpifllkaaGreat

namespace Go.Proofs.YthhkpkfpifllkaaGreat
open Go.RowKit
set_option linter.unusedVariables false

def topS (vs : List Vd) : Int := vs.foldl (fun m v => if 0 < v.rank then max m v.e.ts else m) 0
theorem topS_snoc (vs : List Vd) (v : Vd) : topS (vs ++ [v]) = if 0 < v.rank then max (topS vs) v.e.ts else topS vs := by
  unfold topS
  rw [List.foldl_append]
  rfl
def PBx (w : World) (b : Nat) (m : Int) : Prop := w.heap[b]? = some (.cells #[.int .i64 m] 112 (0, 0))
section
variable {w w' : World} {b : Nat} {m : Int}
theorem PBx.c0 (h : PBx w b m) : w.cell? ⟨b, 0, none⟩ = some (.int .i64 m) := by unfold PBx at h; simp [World.cell?, h]
theorem PBx.fz (h : PBx w b m) : w.frozen? ⟨b, 0, none⟩ = false := by unfold PBx at h; simp [World.frozen?, h]
theorem PBx.lt (h : PBx w b m) : b < w.heap.size := (Array.getElem?_eq_some_iff.1 h).1
theorem PBx.keep (h : PBx w b m) (k : w'.heap[b]? = w.heap[b]?) : PBx w' b m := k.trans h
theorem PBx.set (h : PBx w b m) (x : Int) : PBx (w.setCell ⟨b, 0, none⟩ (.int .i64 x)) b x := by
  unfold PBx at *
  simp [World.setCell, Array.getElem?_modify, h]
end
structure TP (pb : Nat) (W : World) (O : Nat → Prop) (vs : List Vd) : Prop where
  st : PBx W pb (topS vs)
  of : ∀ i, O i ↔ i = pb

set_option maxRecDepth 100000 in
set_option maxHeartbeats 4000000 in
theorem rise_any {W : World} {pb : Nat} {O : Nat → Prop} {vs : List Vd} {e : EntD} (ft rk : Int) (h : TP pb W O vs) (he : EntD.Ok W e) :
    Calls Tryz.prog 59 #[.pointer (some ⟨pb, 0, none⟩), vdV e ft rk] W fun r W' => r = .returned (.tuple #[]) ∧ ∃ O', TP pb W' O' (vs ++ [⟨e.dat, ft, rk⟩]) ∧ Tf W W' O O' := by
  have e1 := topS_snoc vs ⟨e.dat, ft, rk⟩
  have A := (Below.refl W.heap.size W).alloc (Nat.le_refl _) (.cells #[e.vr, .int .i64 e.fam, e.vq, .int .i64 e.ts, .int .i64 e.seq, .int .i64 e.kind, e.vv, .int .i64 ft, .int .i64 rk] 152)
  have vb : VBx (W.alloc (.cells #[e.vr, .int .i64 e.fam, e.vq, .int .i64 e.ts, .int .i64 e.seq, .int .i64 e.kind, e.vv, .int .i64 ft, .int .i64 rk] 152)) W.heap.size e ft rk := heap_new W _
  obtain ⟨X, hX⟩ : ∃ X, X = W.alloc (.cells #[e.vr, .int .i64 e.fam, e.vq, .int .i64 e.ts, .int .i64 e.seq, .int .i64 e.kind, e.vv, .int .i64 ft, .int .i64 rk] 152) := ⟨_, rfl⟩
  rw [← hX] at A vb
  obtain ⟨qb, hqb⟩ : ∃ q, q = W.heap.size := ⟨_, rfl⟩
  have hqb' := hqb.symm
  rw [← hqb] at vb
  have pb1 := h.st.keep (A.block pb h.st.lt)
  have hlt := h.st.lt
  obtain ⟨M, hM⟩ : ∃ M, M = topS vs := ⟨_, rfl⟩
  rw [← hM] at e1 pb1
  have HH : Hid (∀ i, O i ↔ i = pb) := h.of
  have HX := Lib.hid hX
  have HA := Lib.hid A
  have HP := Lib.hid pb1
  have HE := Lib.hid e1
  have HL := Lib.hid hlt
  have p0 := pb1.c0
  have f0 := pb1.fz
  have x3 := vb.all.2.2.2.1
  have x8 := vb.all.2.2.2.2.2.2.2.2
  rw [hX] at p0 f0 x3 x8
  unfold vdV
  clear hX A vb h he hqb pb1 e1 hlt hM
  go_enter Tryz.func59, Tryz.ntmps59
  by_cases hk : 0 < rk
  · have HK := Lib.hid hk
    go_wp2_with fail
    go_region
    go_end0
    rw [← HX.out]
    have st : PBx ((X.setCell ⟨pb, 0, none⟩ (.int .i64 (max M e.ts))).drew) pb (topS (vs ++ [⟨e.dat, ft, rk⟩])) := by
      rw [HE.out, if_pos HK.out]
      exact (HP.out.set (max M e.ts)).keep (drew_heap _ _)
    exact ⟨rfl, O, ⟨st, HH.out⟩, HA.out.os, HA.out.tape, HA.out.output, by simpa using HA.out.size, fun i hi hn => by
      rw [drew_heap, Below.heap_setCell _ _ _ _ (fun z => hn ((HH.out i).2 z))]
      exact HA.out.block i hi, fun i hi => .inl hi⟩
  · have HK := Lib.hid hk
    go_wp2
    go_end0
    rw [← HX.out]
    have st : PBx X pb (topS (vs ++ [⟨e.dat, ft, rk⟩])) := by
      rw [HE.out, if_neg (Int.not_lt.2 HK.out)]
      exact HP.out
    exact ⟨rfl, O, ⟨st, HH.out⟩, HA.out.os, HA.out.tape, HA.out.output, HA.out.size, fun i hi hn => HA.out.block i hi, fun i hi => .inl hi⟩
theorem peak_teller (pb : Nat) : Teller 59 pb (TP pb) where
  enters := enters_of Tryz.func59 (by kernel_rfl) rfl
  keep := fun {W W' O vs} h k sz => ⟨h.st.keep (k pb ((h.of pb).2 rfl)), h.of⟩
  lt := fun {W O vs i} h hi => by rw [(h.of i).1 hi]; exact h.st.lt
  say := fun {W O vs e} ft rk {n} h he hf hv => rise_any ft rk h he
end Go.Proofs.YthhkpkfpifllkaaGreat
