import Derived.Test.YthhkpkfpifllkaaGreatK23
namespace Go.Proofs.YthhkpkfpifllkaaGreat
open Go.RowKit
set_option linter.unusedVariables false

theorem run_append_ents {w : World} {N C : Nat} {v u : Value} {xs ys : List EntD} {ty : TypeId} (hr : w.ownsRow N 84 7 v xs.length (evals xs)) (hu : w.ownsRow C 84 7 u ys.length (evals ys)) (ho3 : ∀ y ∈ ys, O3 w C y) (hn : (xs.length + ys.length) * 104 ≤ 140737488355328) (hN : N ≤ w.heap.size) :
    ∃ v' w', (Builtin.append_ #[28, 28] ty #[v, u]).run Tryz.prog w = .ok v' w' ∧ w'.ownsRow N 84 7 v' (xs ++ ys).length (evals (xs ++ ys)) ∧ w.grownBy w' v.ownBlock ∧ (∀ k, v'.ownBlock = some k → v.ownBlock = some k ∨ k = w.heap.size) := by
  obtain ⟨i0, hi, hz0, hz1, hz2⟩ := info_parts info_ent3
  rcases hu.2 with ⟨h1, h2⟩ | ⟨g, cap, cur, h1, h2, h3, h4, h5, h6, h7⟩
  · have hz := List.eq_nil_of_length_eq_zero h2
    subst hz
    refine ⟨v, w, ?_, by simpa using hr, ⟨rfl, rfl, rfl, Nat.le_refl _, fun _ _ _ => rfl⟩, fun k hk => .inl hk⟩
    rw [h1]
    exact run_append_owned_none (P := Tryz.prog) (w := w) N 28 ty 84 i0 7 und_ents3 hi v xs.length (evals xs) hr
  · obtain ⟨v', w', hr', k2, k3, k4, k5⟩ := run_append_own_at (P := Tryz.prog) w N 28 ty 84 i0 _ 7 104 und_ents3 hi hz0 hz1 hz2 rfl (by decide) v xs.length (evals xs) hr ⟨g, 0, none⟩ ys.length cap (evals ys) (evals_len ys) (fun j u hj => by
        obtain ⟨y, e1, e2⟩ := evals_get3 hj
        have e : (⟨g, 0, none⟩ : Addr).add j = ⟨g, j, none⟩ := by unfold Addr.add; split <;> simp_all
        rw [e]
        have hu' := hu
        rw [h1] at hu'
        obtain ⟨g2, e3, _, _, hc⟩ := row_cells3 hu' e1
        cases e3
        have := hc _ _ e2
        rwa [show j / 7 * 7 + j % 7 = j from by omega] at this) (fun u hu => by
        obtain ⟨j, hj⟩ := List.getElem?_of_mem hu
        obtain ⟨y, e1, e2⟩ := evals_get3 hj
        exact (ho3 y (List.mem_of_getElem? e1)).cells_one u (List.mem_of_getElem? e2)) (by unfold maxLen; omega) (by omega) hN
    rw [h1]
    refine ⟨v', w', hr', ?_, k3, fun k hk => ?_⟩
    · rw [evals_app3, List.length_append]
      exact k2
    · rcases k5 with k5 | k5
      · rw [k5] at hk; exact .inl hk
      · rw [k5] at hk; cases hk; exact .inr rfl
theorem wp_append_ents {w : World} {N C : Nat} {v u : Value} {xs ys : List EntD} {o : Oper} {a : Act} {K : Act → World → Prop} {Q : Exit → Act → World → Prop} (s y : Operand)
    (ho : o.op = .call { callee := .builtin .append, args := #[s, y], argTypes := #[28, 28] })
    (hs : a.eval s = v) (hr : w.ownsRow N 84 7 v xs.length (evals xs)) (hy : a.eval y = u) (hu : w.ownsRow C 84 7 u ys.length (evals ys)) (ho3 : ∀ y ∈ ys, O3 w C y) (hn : (xs.length + ys.length) * 104 ≤ 140737488355328) (hN : N ≤ w.heap.size)
    (h : ∀ a' n' c' w', n' = (xs ++ ys).length → w'.ownsRow N 84 7 (.slice a' n' c') (xs ++ ys).length (evals (xs ++ ys)) → w.grownBy w' v.ownBlock → (∀ k, (Value.slice a' n' c').ownBlock = some k → v.ownBlock = some k ∨ k = w.heap.size) → K (a.put o.dst (.slice a' n' c')) w') : Oper.wp Tryz.prog o a w K Q := by
  obtain ⟨v', w', hrn, h1', h2, h3⟩ := run_append_ents (ty := o.type) hr hu ho3 hn hN
  obtain ⟨a', c', rfl⟩ := rows_form3 h1'
  unfold Oper.wp execOp
  rw [ho]
  simp only [resolve, invoke, builtin, Sem.run_bind, Sem.run_pure, Result.andThen_ok, List.map_toArray, List.map_cons, List.map_nil, hs, hy, hrn]
  exact h a' _ c' w' rfl h1' h2 h3
set_option maxRecDepth 100000 in
theorem op_fieldI {a : Act} {w : World} {x g : Nat} {d : Option Nat} {ps : String} {af : Array Edge} (hx : a.tmps[x]?.getD undef = .pointer (some ⟨g, 0, none⟩)) :
    (execOp a.eval { dst := d, op := Op.fieldAddr 155 (Operand.tmp x) 2, type := 0, pos := ps, after := af, guard := none }).run Tryz.prog w = .ok (.value (.pointer (some ⟨g, 2, none⟩))) w := by
  go_simp
set_option maxRecDepth 100000 in
theorem op_fieldO {a : Act} {w : World} {x g : Nat} {d : Option Nat} {ps : String} {af : Array Edge} (hx : a.tmps[x]?.getD undef = .pointer (some ⟨g, 0, none⟩)) :
    (execOp a.eval { dst := d, op := Op.fieldAddr 155 (Operand.tmp x) 3, type := 0, pos := ps, after := af, guard := none }).run Tryz.prog w = .ok (.value (.pointer (some ⟨g, 3, none⟩))) w := by
  go_simp
set_option maxRecDepth 100000 in
theorem op_loadLi {a : Act} {w : World} {x g n c j : Nat} {ad : Option Addr} {d : Option Nat} {ps : String} {af : Array Edge} (hx : a.tmps[x]?.getD undef = .pointer (some ⟨g, j, none⟩)) (h : w.cell? ⟨g, j, none⟩ = some (.slice ad n c)) :
    (execOp a.eval { dst := d, op := Op.load 28 (Operand.tmp x), type := 28, pos := ps, after := af, guard := none }).run Tryz.prog w = .ok (.value (.slice ad n c)) w := by
  go_simp
set_option maxRecDepth 100000 in
theorem wp_fieldI {a : Act} {w : World} {K : Act → World → Prop} {Q : Exit → Act → World → Prop} {x g : Nat} {d : Option Nat} {ps : String} {af : Array Edge} (hx : a.tmps[x]?.getD undef = .pointer (some ⟨g, 0, none⟩)) (hk : K (a.put d (.pointer (some ⟨g, 2, none⟩))) w) :
    Oper.wp Tryz.prog { dst := d, op := Op.fieldAddr 155 (Operand.tmp x) 2, type := 0, pos := ps, after := af, guard := none } a w K Q := by
  go_simp
  exact hk
set_option maxRecDepth 100000 in
theorem wp_fieldO {a : Act} {w : World} {K : Act → World → Prop} {Q : Exit → Act → World → Prop} {x g : Nat} {d : Option Nat} {ps : String} {af : Array Edge} (hx : a.tmps[x]?.getD undef = .pointer (some ⟨g, 0, none⟩)) (hk : K (a.put d (.pointer (some ⟨g, 3, none⟩))) w) :
    Oper.wp Tryz.prog { dst := d, op := Op.fieldAddr 155 (Operand.tmp x) 3, type := 0, pos := ps, after := af, guard := none } a w K Q := by
  go_simp
  exact hk
set_option maxRecDepth 100000 in
theorem wp_storeLi {a : Act} {w : World} {K : Act → World → Prop} {Q : Exit → Act → World → Prop} {p q g n c j : Nat} {a' : Option Addr} {y : Value} {ps : String} {af : Array Edge} (hc : w.cell? ⟨g, j, none⟩ = some y) (hf : w.frozen? ⟨g, j, none⟩ = false) (hp : a.tmps[p]?.getD undef = .pointer (some ⟨g, j, none⟩)) (hq : a.tmps[q]?.getD undef = .slice a' n c) (hk : K a (w.setCell ⟨g, j, none⟩ (.slice a' n c))) :
    Oper.wp Tryz.prog { dst := none, op := Op.store 28 (Operand.tmp p) (Operand.tmp q), type := 0, pos := ps, after := af, guard := none } a w K Q := by
  go_simp
  exact hk
set_option maxRecDepth 100000 in
theorem wp_cloneAllA {a : Act} {w : World} {K : Act → World → Prop} {Q : Exit → Act → World → Prop} {x : Nat} {v : Value} {d : Option Nat} {ty ts : TypeId} {ps : String} {af : Array Edge} {R : Ending → World → Prop} (hx : a.tmps[x]?.getD undef = v) (hc : Calls Tryz.prog 14 #[v] w R) (hk : ∀ r w', R r w' → ∃ u, r = .returned u ∧ K (a.put d u) w') :
    Oper.wp Tryz.prog { dst := d, op := Op.call { callee := .value (.func 14), args := #[.tmp x], argTypes := #[ts] }, type := ty, pos := ps, after := af, guard := none } a w K Q := by
  go_simp
  refine Calls.mono hc ?_
  intro r w' hr
  obtain ⟨u, rfl, hk⟩ := hk r w' hr
  exact hk
set_option maxRecDepth 100000 in
theorem wp_cloneA {a : Act} {w : World} {K : Act → World → Prop} {Q : Exit → Act → World → Prop} {x : Nat} {v : Value} {d : Option Nat} {ty ts : TypeId} {ps : String} {af : Array Edge} {R : Ending → World → Prop} (hx : a.tmps[x]?.getD undef = v) (hc : Calls Tryz.prog 35 #[v] w R) (hk : ∀ r w', R r w' → ∃ u, r = .returned u ∧ K (a.put d u) w') :
    Oper.wp Tryz.prog { dst := d, op := Op.call { callee := .value (.func 35), args := #[.tmp x], argTypes := #[ts] }, type := ty, pos := ps, after := af, guard := none } a w K Q := by
  go_simp
  refine Calls.mono hc ?_
  intro r w' hr
  obtain ⟨u, rfl, hk⟩ := hk r w' hr
  exact hk
end Go.Proofs.YthhkpkfpifllkaaGreat

namespace Go.Proofs.YthhkpkfpifllkaaGreat
open Go.RowKit
set_option linter.unusedVariables false

structure Fdt (fs : List FamD) (clock : Int) (OO : List Vd → List En) (ins outs : List EntD) (la : EntD) (s : SpD) (V0 us : List Vd) (l m : List EntD) (n : Nat) : Prop where
  pu : Pushed (mt fs) clock fs.length l m s.dat us
  li : l.map EntD.dat = ins.map EntD.dat
  out : outs.map EntD.dat = OO us
  lla : s.begun = true → la.dat = s.last.dat
  bla : Sz la.dat
  szi : ∀ x ∈ ins, Sz x.dat
  sz0 : ∀ v ∈ V0, Sz v.e
  few : V0.length + ins.length ≤ n
def Fl (B wb g rb q : Nat) (fv : Value) (fs : List FamD) (clock : Int) (T : List En → World → (Nat → Prop) → List Vd → Prop) (OO : List Vd → List En) (pf pr : Option Addr) (ct : Ct) (V0 : List Vd) (W : World) (n : Nat) (P : Nat → Prop) : Prop :=
  ∃ ins outs la vi vo s us l m Oi Oo, Fm B wb g rb q fv fs clock T pf pr W ins outs la s.begun ct vi vo s (OO (V0 ++ us)) (V0 ++ us) Oi Oo ∧ Fdt fs clock OO ins outs la s V0 us l m n ∧ P = FlP q wb rb fv s la Oi Oo
theorem pushE_dat {k : Nat} {s : SpD} {y e : EntD} (h : y.dat = e.dat) : pushE k s y = pushE k s e := by
  have sm := EntD.dat_same.1 h
  have h1 : check3S k y = check3S k e := by rw [check_dat, check_dat k e, h]
  have h2 : compareS y s.last = compareS e s.last := compareS_same sm ⟨rfl, rfl, rfl, rfl, rfl, rfl, rfl⟩
  have h3 : sameS y s.last = sameS e s.last := by
    cases q : sameS e s.last with
    | true => exact sameS_of (h.trans (sameS_dat q))
    | false =>
      cases q2 : sameS y s.last with
      | false => rfl
      | true => rw [sameS_of (h.symm.trans (sameS_dat q2))] at q; cases q
  have h4 : y.seq = e.seq := congrArg En.seq h
  unfold pushE
  rw [h1, h2, h3, h4]
theorem pushR_dat {k : Nat} {la lb e : EntD} {has : Bool} (h : has = true → la.dat = lb.dat) : pushR k la has e = pushR k lb has e := by
  unfold pushR
  cases has with
  | false => simp
  | true =>
    have hd := h rfl
    have sm := EntD.dat_same.1 hd
    have h2 : compareS la e = compareS lb e := compareS_same sm ⟨rfl, rfl, rfl, rfl, rfl, rfl, rfl⟩
    have h4 : la.seq = lb.seq := congrArg En.seq hd
    have h5 : EntD.Same la e ↔ EntD.Same lb e := by rw [← EntD.dat_same, ← EntD.dat_same, hd]
    simp only [h2, h4, h5]
section
variable {fs : List FamD} {clock : Int} {OO : List Vd → List En} {wa : List En → List En} {ins outs : List EntD} {la : EntD} {s : SpD} {V0 us : List Vd} {l m : List EntD} {n : Nat}
theorem Fdt.pushR (d : Fdt fs clock OO ins outs la s V0 us l m n) {y e : EntD} (hy : y.dat = e.dat) : pushR fs.length la s.begun e = pushE fs.length s y := by
  rw [pushR_dat (lb := s.last) d.lla, pushR_is, pushE_dat hy]
theorem Fdt.lens (d : Fdt fs clock OO ins outs la s V0 us l m n) : (V0 ++ us).length ≤ n ∧ s.rank ≤ ((V0 ++ us).length : Int) ∧ (s.waiting = true → s.begun = true) ∧ (V0 ++ us ++ (resolveS (mt fs) clock s.dat 3).1).length ≤ n ∧ ins.length ≤ n := by
  obtain ⟨f1, f2, f3, f4⟩ := d.pu.few
  have hl : l.length = ins.length := by have := congrArg List.length d.li; simpa using this
  have f3' : s.rank ≤ (us.length : Int) := f3
  have := d.few
  refine ⟨by rw [List.length_append]; omega, by rw [List.length_append]; omega, f4, ?_, by omega⟩
  rw [List.append_assoc, List.length_append, f2]
  omega
theorem Fdt.szl (d : Fdt fs clock OO ins outs la s V0 us l m n) : ∀ x ∈ l, Sz x.dat := fun x hx => by
  have : x.dat ∈ ins.map EntD.dat := by rw [← d.li]; exact List.mem_map_of_mem hx
  obtain ⟨z, hz, e⟩ := List.mem_map.1 this
  rw [← e]
  exact d.szi z hz
theorem Fdt.more (d : Fdt fs clock OO ins outs la s V0 us l m n) : Fdt fs clock OO ins outs la s V0 us l m (n + 1) := ⟨d.pu, d.li, d.out, d.lla, d.bla, d.szi, d.sz0, Nat.le_succ_of_le d.few⟩
theorem Fdt.refused (d : Fdt fs clock OO ins outs la s V0 us l m n) {s' : SpD} (h : s'.dat = s.dat) : Fdt fs clock OO ins outs la s' V0 us l m (n + 1) ∧ s'.begun = s.begun := by
  have hb : s'.begun = s.begun := congrArg Sp.begun h
  have hl : s'.last.dat = s.last.dat := congrArg Sp.last h
  exact ⟨⟨h ▸ d.pu, d.li, d.out, fun z => by rw [hl]; exact d.lla (hb ▸ z), d.bla, d.szi, d.sz0, Nat.le_succ_of_le d.few⟩, hb⟩
theorem Fdt.outSz (d : Fdt fs clock OO ins outs la s V0 us l m n) (K : Kd (mt fs) clock fs.length OO wa) : ∀ x ∈ outs, Sz x.dat := fun x hx => by
  have : x.dat ∈ OO us := by rw [← d.out]; exact List.mem_map_of_mem hx
  obtain ⟨v, hv, e⟩ := K.mem us _ this
  rw [← e]
  exact (d.pu.sz d.szl).1 v hv
theorem Fdt.isOrd (d : Fdt fs clock OO ins outs la s V0 us l m n) : IsOrd fs.length (ins.map EntD.dat) (m.map EntD.dat) := by rw [← d.li]; exact d.pu.isOrd
theorem Fdt.inOrd (d : Fdt fs clock OO ins outs la s V0 us l m n) : inOrderE (check3S fs.length) ins = 0 := d.isOrd.part (fun e he => he)
theorem Fdt.pushed (K : Kd (mt fs) clock fs.length OO wa) (d : Fdt fs clock OO ins outs la s V0 us l m n) {e y : EntD} (hy : y.dat = e.dat) (hb : ByE e.dat) (hc : ∀ (i : Nat) x, i + 1 < ins.length → ins[i]? = some x → x.seq = e.seq → x.dat = e.dat) (hE : pushE fs.length s y = 0) {s' : SpD} (hs' : s'.dat = (pushS fs.length (mt fs) clock s y).2) {xs : List EntD} (hx : OO (V0 ++ us) ++ xs.map EntD.dat = OO (V0 ++ us ++ (pushS fs.length (mt fs) clock s y).1)) :
    (∀ z ∈ xs, Sz z.dat) ∧ s'.begun = true ∧ Sz e.dat ∧ (∀ (zs : List EntD) (x x2 : EntD), zs.map EntD.dat = xs.map EntD.dat → x.dat = e.dat → x2.dat = e.dat → ∃ l' m', Fdt fs clock OO (ins ++ [x]) (outs ++ zs) x2 s' V0 (us ++ (pushS fs.length (mt fs) clock s y).1) l' m' (n + 1)) ∧ (s.begun = true → la.row ≠ e.row → ∃ c, outs.map EntD.dat ++ xs.map EntD.dat = wa (m.map EntD.dat) ++ c) ∧ outs.length + xs.length ≤ n + 1 := by
  have hc' : ∀ (i : Nat) x, i + 1 < l.length → l[i]? = some x → x.seq = y.seq → x.dat = y.dat := fun i x h1 h2 h3 => by
    have hl : l.length = ins.length := by have := congrArg List.length d.li; simpa using this
    have e1 : (l.map EntD.dat)[i]? = some x.dat := by rw [List.getElem?_map, h2]; rfl
    rw [d.li, List.getElem?_map] at e1
    cases hi : ins[i]? with
    | none => rw [hi] at e1; cases e1
    | some z =>
      rw [hi] at e1
      have e2 : z.dat = x.dat := Option.some.inj e1
      have := hc i z (by omega) hi ((congrArg En.seq e2).trans (h3.trans (congrArg En.seq hy)))
      rw [← e2, this, hy]
  obtain ⟨m', hm'⟩ := d.pu.push hc' hE
  have hck : check3S fs.length e = 0 := by
    have q := hE
    unfold pushE at q
    have h1 : check3S fs.length y = check3S fs.length e := by rw [check_dat, check_dat fs.length e, hy]
    by_cases z : check3S fs.length y ≠ 0
    · rw [if_pos z] at q; exact absurd q z
    · rw [← h1]; exact Decidable.not_not.1 z
  have hF := fit_of_check hck
  have hSe : Sz e.dat := ⟨hb, hF.row, hF.qual, hF.val⟩
  rw [← hs'] at hm'
  obtain ⟨q, z, -⟩ | ⟨hbg, y', z', e1, e2, e3, e4⟩ := hm'.last
  · cases l <;> cases q
  have hz' : z' = y := by
    rw [List.getLast?_append] at e2
    simpa using e2.symm
  have sz1 : ∀ x ∈ l ++ [y], Sz x.dat := fun x hx => by
    rcases List.mem_append.1 hx with q | q
    · exact d.szl x q
    · rw [List.mem_singleton.1 q, hy]; exact hSe
  have sv := (hm'.sz sz1).1
  have ap1 := K.app V0 us d.pu.gd.1
  have ap2 := K.app V0 (us ++ (pushS fs.length (mt fs) clock s y).1) hm'.gd.1
  have hx2 : OO us ++ xs.map EntD.dat = OO (us ++ (pushS fs.length (mt fs) clock s y).1) := by
    rw [List.append_assoc, ap2, ap1, List.append_assoc] at hx
    exact List.append_cancel_left hx
  refine ⟨fun z hz => ?_, hbg, hSe, fun zs x x2 hz h1 h2 => ⟨l ++ [y], m', hm', ?_, ?_, fun _ => ?_, ?_, ?_, d.sz0, ?_⟩, fun hb0 hr => ?_, ?_⟩
  · have : z.dat ∈ OO (us ++ (pushS fs.length (mt fs) clock s y).1) := by rw [← hx2]; exact List.mem_append_right _ (List.mem_map_of_mem hz)
    obtain ⟨v, hv, e⟩ := K.mem _ _ this
    rw [← e]
    exact sv v hv
  · rw [List.map_append, List.map_append, d.li, List.map_cons, List.map_cons, h1, hy]
  · rw [List.map_append, d.out, hz, hx2]
  · rw [h2, ← hy, ← hz']; exact e4
  · rw [h2]; exact hSe
  · intro z hz
    rcases List.mem_append.1 hz with q | q
    · exact d.szi z q
    · rw [List.mem_singleton.1 q, h1]; exact hSe
  · have := d.few
    rw [List.length_append, List.length_singleton]
    omega
  · have hr' : s.last.row ≠ y.row := fun z => hr ((congrArg En.row (d.lla hb0)).trans (z.trans (congrArg En.row hy)))
    obtain ⟨c, hc⟩ := push_new (fs := mt fs) (clock := clock) hE hb0 hr'
    rw [d.out, hx2, hc, ← List.append_assoc]
    obtain ⟨c', hc'⟩ := K.pre (us ++ (resolveS (mt fs) clock s.dat 3).1) c
    exact ⟨c', by rw [hc', K.all d.pu]⟩
  · have e1 := K.len (us ++ (pushS fs.length (mt fs) clock s y).1)
    rw [← hx2, ← d.out, List.length_append, List.length_map, List.length_map] at e1
    have e2 := hm'.few.1
    rw [List.length_append, List.length_append, List.length_singleton] at e2
    rw [List.length_append] at e1
    have hl : l.length = ins.length := by have := congrArg List.length d.li; simpa using this
    have := d.few
    omega
theorem Fdt.ended (K : Kd (mt fs) clock fs.length OO wa) (d : Fdt fs clock OO ins outs la s V0 us l m n) {xs : List EntD} (hx : OO (V0 ++ us) ++ xs.map EntD.dat = OO (V0 ++ us ++ (resolveS (mt fs) clock s.dat 3).1)) :
    (∀ z ∈ xs, Sz z.dat) ∧ outs.map EntD.dat ++ xs.map EntD.dat = wa (m.map EntD.dat) ∧ Fdt fs clock OO [] [] entZ spZ (V0 ++ us ++ (resolveS (mt fs) clock s.dat 3).1) [] [] [] n ∧ outs.length + xs.length ≤ n := by
  have ap1 := K.app V0 us d.pu.gd.1
  have ap2 := K.app V0 (us ++ (resolveS (mt fs) clock s.dat 3).1) d.pu.gd.2
  have hx2 : OO us ++ xs.map EntD.dat = OO (us ++ (resolveS (mt fs) clock s.dat 3).1) := by
    rw [List.append_assoc, ap2, ap1, List.append_assoc] at hx
    exact List.append_cancel_left hx
  have sv := d.pu.sz d.szl
  have all : ∀ v ∈ us ++ (resolveS (mt fs) clock s.dat 3).1, Sz v.e := fun v hv => (List.mem_append.1 hv).elim (sv.1 v) (sv.2 v)
  refine ⟨fun z hz => ?_, by rw [d.out, hx2, K.all d.pu], ⟨.nil, rfl, K.nil.symm, (fun z => by cases z), ?_, (fun x hx => by cases hx), fun v hv => ?_, ?_⟩, ?_⟩
  · have : z.dat ∈ OO (us ++ (resolveS (mt fs) clock s.dat 3).1) := by rw [← hx2]; exact List.mem_append_right _ (List.mem_map_of_mem hz)
    obtain ⟨v, hv, e⟩ := K.mem _ _ this
    rw [← e]
    exact all v hv
  · exact ⟨⟨⟨(fun x hx => by cases hx), (fun x hx => by cases hx), (fun x hx => by cases hx)⟩, by decide, by decide, by decide⟩, by decide, by decide, by decide⟩
  · rw [List.append_assoc] at hv
    exact (List.mem_append.1 hv).elim (d.sz0 v) (all v)
  · have := d.lens.2.2.2.1
    simpa using this
  · have e1 := K.len (us ++ (resolveS (mt fs) clock s.dat 3).1)
    rw [← hx2, ← d.out, List.length_append, List.length_map, List.length_map] at e1
    have := d.lens.2.2.2.1
    simp only [List.length_append] at this e1
    omega
end
end Go.Proofs.YthhkpkfpifllkaaGreat

namespace Go.Proofs.YthhkpkfpifllkaaGreat
open Go.RowKit
set_option linter.unusedVariables false

def CBx (w : World) (b : Nat) (fa : Option Addr) (K fc : Nat) (clock : Int) (major : Bool) (low t nv : Int) : Prop := w.heap[b]? = some (.cells #[.slice fa K fc, .int .i64 clock, .bool major, .int .i64 low, .int .i64 t, .int .i64 nv] 62 (0, 0))
theorem CBx.cells {w : World} {b : Nat} {fa : Option Addr} {K fc : Nat} {clock low t nv : Int} {major : Bool} (h : CBx w b fa K fc clock major low t nv) : w.cell? ⟨b, 0, none⟩ = some (.slice fa K fc) ∧ w.cell? ⟨b, 1, none⟩ = some (.int .i64 clock) ∧ w.cell? ⟨b, 2, none⟩ = some (.bool major) ∧ w.cell? ⟨b, 3, none⟩ = some (.int .i64 low) ∧ w.cell? ⟨b, 4, none⟩ = some (.int .i64 t) ∧ w.cell? ⟨b, 5, none⟩ = some (.int .i64 nv) :=
  ⟨cell_at9 h rfl, cell_at9 h rfl, cell_at9 h rfl, cell_at9 h rfl, cell_at9 h rfl, cell_at9 h rfl⟩
theorem push_box (w : World) (fa : Option Addr) (K fc : Nat) (clock low t nv : Int) (major : Bool) (e : EntD) : ∃ X, X = (w.alloc (.cells #[.slice fa K fc, .int .i64 clock, .bool major, .int .i64 low, .int .i64 t, .int .i64 nv] 62)).alloc (.cells e.cells 84) ∧ Below w.heap.size w X ∧ X.heap.size = w.heap.size + 2 ∧ CBx X w.heap.size fa K fc clock major low t nv ∧ EBox X (w.heap.size + 1) e := by
  refine ⟨_, rfl, ((Below.refl _ w).alloc (Nat.le_refl _) _).alloc (by rw [World.size_alloc]; exact Nat.le_succ _) _, by rw [World.size_alloc, World.size_alloc], ?_, ?_⟩
  · unfold CBx
    exact ((Below.refl _ (w.alloc (.cells #[.slice fa K fc, .int .i64 clock, .bool major, .int .i64 low, .int .i64 t, .int .i64 nv] 62))).alloc (Nat.le_refl _) (.cells e.cells 84)).block w.heap.size (by rw [World.size_alloc]; exact Nat.lt_succ_self _) |>.trans (heap_new w _)
  · have := EBox.new (w.alloc (.cells #[.slice fa K fc, .int .i64 clock, .bool major, .int .i64 low, .int .i64 t, .int .i64 nv] 62)) e
    rwa [World.size_alloc] at this
theorem one_rdl {w : World} {e : EntD} (he : EntD.Ok w e) : RdL3 (w.alloc (.cells e.cells 84)) (some ⟨w.heap.size, 0, none⟩) 1 [e] := by
  refine ⟨⟨Nat.le_refl _, by decide⟩, .inr ⟨w.heap.size, 0, rfl, fun i x hi j u hu => ?_⟩, fun x hx => ?_⟩
  · have h0 : i = 0 := by
      cases i with
      | zero => rfl
      | succ i => simp at hi
    subst h0
    cases hi
    have := ent_new w e j u hu
    have e3 : ((⟨w.heap.size, 0, none⟩ : Addr).add j) = ⟨w.heap.size, j, none⟩ := by
      unfold Addr.add
      by_cases hj : j = 0 <;> simp [hj]
    rw [e3] at this
    simpa using this
  · rw [List.mem_singleton.1 hx]
    exact he.later ((Below.refl _ w).alloc (Nat.le_refl _) _)
def FlTo (B wb g rb q : Nat) (fv : Value) (fs : List FamD) (clock : Int) (T : List En → World → (Nat → Prop) → List Vd → Prop) (OO : List Vd → List En) (pf pr : Option Addr) (ct : Ct) (V0 : List Vd) (W W' : World) (n : Nat) (P : Nat → Prop) : Prop :=
  ∃ P', Fl B wb g rb q fv fs clock T OO pf pr ct V0 W' n P' ∧ SpF W W' P ∧ ∀ i, P' i → P i ∨ W.heap.size ≤ i
theorem SpF.then {W X Y : World} {O O' : Nat → Prop} (h : SpF W X O) (k : SpF X Y O') (hO : ∀ i, i < W.heap.size → O' i → O i) : SpF W Y O := ⟨k.os.trans h.os, k.tape.trans h.tape, k.output.trans h.output, Nat.le_trans h.size k.size, fun i hi hn => (k.block i (Nat.lt_of_lt_of_le hi h.size) (fun z => hn (hO i hi z))).trans (h.block i hi hn)⟩
theorem rdl_cells7 {w : World} {gL c : Nat} {y : EntD} (h : RdL3 w (some ⟨gL, 0, none⟩) c [y]) : w.cell? ⟨gL, 0, none⟩ = some y.vr ∧ w.cell? ⟨gL, 1, none⟩ = some (.int .i64 y.fam) ∧ w.cell? ⟨gL, 2, none⟩ = some y.vq ∧ w.cell? ⟨gL, 3, none⟩ = some (.int .i64 y.ts) ∧ w.cell? ⟨gL, 4, none⟩ = some (.int .i64 y.seq) ∧ w.cell? ⟨gL, 5, none⟩ = some (.int .i64 y.kind) ∧ w.cell? ⟨gL, 6, none⟩ = some y.vv := by
  rcases h.at_ with z | ⟨b, off, e1, hc⟩
  · cases z
  · cases e1
    have q := fun j u hj => hc 0 y rfl j u hj
    exact ⟨q 0 _ rfl, q 1 _ rfl, q 2 _ rfl, q 3 _ rfl, q 4 _ rfl, q 5 _ rfl, q 6 _ rfl⟩
theorem Vw.rdk {W w w' : World} {zs : List EntD} {a : Option Addr} {c : Nat} {p : List En} (h : Vw W w zs (.slice a zs.length c) p) (kk : ∀ g, W.heap.size ≤ g → g < w.heap.size → w'.heap[g]? = w.heap[g]?) : RdL3 w' a c zs := by
  have row := row_same h.row (fun g hg => kk g (h.row.lt g hg).1 (h.row.lt g hg).2)
  have ents : ∀ x ∈ zs, O3 w' W.heap.size x := fun x hx => (h.ents x hx).keepO (fun g hg => by
    have := (h.ents x hx).lt g hg
    exact kk g this.1 this.2)
  obtain ⟨a', c', e, hr⟩ := row_rdl row (fun x hx => (ents x hx).okB (h.by_ x hx))
  cases e
  exact hr
theorem and_of {a b : Bool} (h : true = (a && !b)) : a = true ∧ b = false := by cases a <;> cases b <;> simp_all
theorem grownQ {a b c : World} {q : Nat} (h : a.grownBy b (some q)) (k : b.grownBy c (some q)) : a.grownBy c (some q) := ⟨k.os.trans h.os, k.tape.trans h.tape, k.output.trans h.output, Nat.le_trans h.size k.size, fun i hi hn => (k.block i (Nat.lt_of_lt_of_le hi h.size) hn).trans (h.block i hi hn)⟩
theorem FlBx.set8 {w : World} {q : Nat} {pf pr : Option Addr} {vi vo : Value} {la : EntD} {has : Bool} {ct : Ct} (h : FlBx w q pf pr vi vo la has ct) (x : EntD) : ∃ Y, Y = (((((((w.setCell ⟨q, 4, none⟩ x.vr).setCell ⟨q, 5, none⟩ (.int .i64 x.fam)).setCell ⟨q, 6, none⟩ x.vq).setCell ⟨q, 7, none⟩ (.int .i64 x.ts)).setCell ⟨q, 8, none⟩ (.int .i64 x.seq)).setCell ⟨q, 9, none⟩ (.int .i64 x.kind)).setCell ⟨q, 10, none⟩ x.vv).setCell ⟨q, 11, none⟩ (.bool true) ∧ FlBx Y q pf pr vi vo x true ct ∧ w.grownBy Y (some q) := by
  exact ⟨_, rfl, (h.setLast x).setHas true, grownQ (grownQ (grownQ (grownQ (grownQ (grownQ (grownQ (grown1 _ _ _ _) (grown1 _ _ _ _)) (grown1 _ _ _ _)) (grown1 _ _ _ _)) (grown1 _ _ _ _)) (grown1 _ _ _ _)) (grown1 _ _ _ _)) (grown1 _ _ _ _)⟩
theorem Fm.cast {B wb g rb q : Nat} {fv : Value} {fs : List FamD} {clock : Int} {T : List En → World → (Nat → Prop) → List Vd → Prop} {pf pr : Option Addr} {W : World} {ins outs : List EntD} {la : EntD} {has has' : Bool} {ct : Ct} {vi vo : Value} {s : SpD} {hd hd' : List En} {vs vs' : List Vd} {Oi Oo : Nat → Prop} (h : Fm B wb g rb q fv fs clock T pf pr W ins outs la has ct vi vo s hd vs Oi Oo) (h1 : has = has') (h2 : hd = hd') (h3 : vs = vs') : Fm B wb g rb q fv fs clock T pf pr W ins outs la has' ct vi vo s hd' vs' Oi Oo := by
  subst h1 h2 h3; exact h
end Go.Proofs.YthhkpkfpifllkaaGreat

namespace Go.Proofs.YthhkpkfpifllkaaGreat
open Go.RowKit
set_option linter.unusedVariables false

structure Strm (B0 q : Nat) (cv : Value) (RD : World → Prop) (S : World → Nat → (Nat → Prop) → Prop) : Prop where
  keep : ∀ {W W' : World} {n : Nat} {P : Nat → Prop}, S W n P → W.heap.size ≤ W'.heap.size → (∀ i, P i → W'.heap[i]? = W.heap[i]?) → S W' n P
  lt : ∀ {W : World} {n : Nat} {P : Nat → Prop} {i : Nat}, S W n P → P i → B0 ≤ i ∧ i < W.heap.size
  push : ∀ {W : World} {n : Nat} {P : Nat → Prop} {e : EntD}, S W n P → (∀ Z, SpF W Z P → RD Z ∧ EntD.Ok Z e) → ShrtW e → n + 1 ≤ 1353245080300 → Calls Tryz.prog 69 #[.pointer (some ⟨q, 0, none⟩), cv, .agg e.cells] W fun r W' => r = .returned (.bool true) ∧ ∃ P', S W' (n + 1) P' ∧ SpF W W' P ∧ ∀ i, P' i → P i ∨ W.heap.size ≤ i
  end_ : ∀ {W : World} {n : Nat} {P : Nat → Prop}, S W n P → (∀ Z, SpF W Z P → RD Z) → n ≤ 1353245080300 → Calls Tryz.prog 68 #[.pointer (some ⟨q, 0, none⟩), cv] W fun r W' => r = .returned (.bool true) ∧ ∃ P', S W' n P' ∧ SpF W W' P ∧ ∀ i, P' i → P i ∨ W.heap.size ≤ i
def FlowO (B0 : Nat) (cv : Value) (RD : World → Prop) (pp : Option Addr) (W : World) (n : Nat) (P : Nat → Prop) : Prop :=
  (pp = none ∧ ∀ i, ¬ P i) ∨ ∃ q S k, pp = some ⟨q, 0, none⟩ ∧ Strm B0 q cv RD S ∧ S W k P ∧ k ≤ n
theorem FlowO.keep {B0 : Nat} {cv : Value} {RD : World → Prop} {pp : Option Addr} {W W' : World} {n n' : Nat} {P : Nat → Prop} (h : FlowO B0 cv RD pp W n P) (hn : n ≤ n') (hs : W.heap.size ≤ W'.heap.size) (hk : ∀ i, P i → W'.heap[i]? = W.heap[i]?) : FlowO B0 cv RD pp W' n' P := by
  rcases h with h | ⟨q, S, k, h1, h2, h3, h4⟩
  · exact .inl h
  · exact .inr ⟨q, S, k, h1, h2, h2.keep h3 hs hk, Nat.le_trans h4 hn⟩
theorem FlowO.lt {B0 : Nat} {cv : Value} {RD : World → Prop} {pp : Option Addr} {W : World} {n : Nat} {P : Nat → Prop} (h : FlowO B0 cv RD pp W n P) (i : Nat) (hi : P i) : B0 ≤ i ∧ i < W.heap.size := by
  rcases h with h | ⟨q, S, k, h1, h2, h3, h4⟩
  · exact absurd hi (h.2 i)
  · exact h2.lt h3 hi
structure Tw (W0 : World) (cv dv : Value) (RDc RDd : World → Prop) (pp qq : Option Addr) (W : World) (n : Nat) : Prop where
  st : ∃ Pp Pq, FlowO W0.heap.size cv RDc pp W n Pp ∧ FlowO W0.heap.size dv RDd qq W n Pq ∧ ∀ i, Pp i → ¬ Pq i
  below : Below W0.heap.size W0 W
section
variable {W0 W W' : World} {cv dv : Value} {RDc RDd : World → Prop} {pp qq : Option Addr} {n : Nat} {a : Addr} {e : EntD}
theorem Tw.swap (h : Tw W0 cv dv RDc RDd pp qq W n) : Tw W0 dv cv RDd RDc qq pp W n := by
  obtain ⟨Pp, Pq, h1, h2, h3⟩ := h.st
  exact ⟨⟨Pq, Pp, h2, h1, fun i hi hj => h3 i hj hi⟩, h.below⟩
theorem Tw.later (h : Tw W0 cv dv RDc RDd pp qq W n) (b : Below W.heap.size W W') {n' : Nat} (hn : n ≤ n') : Tw W0 cv dv RDc RDd pp qq W' n' := by
  obtain ⟨Pp, Pq, h1, h2, h3⟩ := h.st
  exact ⟨⟨Pp, Pq, h1.keep hn b.size (fun i hi => b.block i (h1.lt i hi).2), h2.keep hn b.size (fun i hi => b.block i (h2.lt i hi).2), h3⟩, h.below.trans (b.mono h.below.size)⟩
theorem spf_below {P : Nat → Prop} (h : Below W0.heap.size W0 W) (k : SpF W W' P) (hP : ∀ i, P i → W0.heap.size ≤ i) : Below W0.heap.size W0 W' :=
  below_of_heap h h.size k.os k.tape k.output k.size (fun i hi hi0 => k.block i hi (fun z => absurd hi0 (Nat.not_lt.2 (hP i z))))
theorem tw_of {P P' Pq : Nat → Prop} {n' : Nat} (hb : Below W0.heap.size W0 W) (h1 : FlowO W0.heap.size cv RDc pp W n P) (h2 : FlowO W0.heap.size dv RDd qq W n Pq) (h3 : ∀ i, P i → ¬ Pq i) (k : FlowO W0.heap.size cv RDc pp W' n' P') (hn : n ≤ n') (sp : SpF W W' P) (hP : ∀ i, P' i → P i ∨ W.heap.size ≤ i) : Tw W0 cv dv RDc RDd pp qq W' n' := by
  refine ⟨⟨P', Pq, k, h2.keep hn sp.size (fun i hi => sp.block i (h2.lt i hi).2 (fun z => h3 i z hi)), fun i hi hj => ?_⟩, spf_below hb sp (fun i hi => (h1.lt i hi).1)⟩
  rcases hP i hi with z | z
  · exact h3 i z hj
  · have := (h2.lt i hj).2; omega
theorem Tw.push {V : World} (h : Tw W0 cv dv RDc RDd (some a) qq W n) (b : Below W.heap.size W V) (hr : ∀ Z, Below W0.heap.size W0 Z → RDc Z ∧ EntD.Ok Z e) (hs : ShrtW e) (hn : n + 1 ≤ 1353245080300) :
    Calls Tryz.prog 69 #[.pointer (some a), cv, .agg e.cells] V fun r W' => r = .returned (.bool true) ∧ Tw W0 cv dv RDc RDd (some a) qq W' (n + 1) ∧ ∀ i, W.heap.size ≤ i → i < V.heap.size → W'.heap[i]? = V.heap[i]? := by
  obtain ⟨Pp, Pq, h1, h2, h3⟩ := h.st
  have k1 := h1.keep (Nat.le_refl _) b.size (fun i hi => b.block i (h1.lt i hi).2)
  have k2 := h2.keep (Nat.le_refl _) b.size (fun i hi => b.block i (h2.lt i hi).2)
  have hbl := h.below.trans (b.mono h.below.size)
  have k1' := k1
  rcases k1' with z | ⟨q, S, k, e1, g2, g3, g4⟩
  · cases z.1
  · cases e1
    refine (g2.push g3 (fun Z sp => hr Z (spf_below hbl sp (fun i hi => (h1.lt i hi).1))) hs (by omega)).mono ?_
    rintro r W' ⟨rfl, P', s', sp, hP⟩
    refine ⟨rfl, tw_of hbl k1 k2 h3 (.inr ⟨q, S, k + 1, rfl, g2, s', by omega⟩) (Nat.le_succ _) sp hP, fun i h4 h5 => sp.block i h5 (fun z => ?_)⟩
    have := (h1.lt i z).2
    omega
theorem Tw.end_ (h : Tw W0 cv dv RDc RDd (some a) qq W n) (hr : ∀ Z, Below W0.heap.size W0 Z → RDc Z) (hn : n ≤ 1353245080300) :
    Calls Tryz.prog 68 #[.pointer (some a), cv] W fun r W' => r = .returned (.bool true) ∧ Tw W0 cv dv RDc RDd (some a) qq W' n := by
  obtain ⟨Pp, Pq, h1, h2, h3⟩ := h.st
  have h1' := h1
  rcases h1' with z | ⟨q, S, k, e1, g2, g3, g4⟩
  · cases z.1
  · cases e1
    refine (g2.end_ g3 (fun Z sp => hr Z (spf_below h.below sp (fun i hi => (h1.lt i hi).1))) (by omega)).mono ?_
    rintro r W' ⟨rfl, P', s', sp, hP⟩
    exact ⟨rfl, tw_of h.below h1 h2 h3 (.inr ⟨q, S, k, rfl, g2, s', g4⟩) (Nat.le_refl _) sp hP⟩
end
end Go.Proofs.YthhkpkfpifllkaaGreat

namespace Go.Proofs.YthhkpkfpifllkaaGreat
open Go.RowKit
set_option linter.unusedVariables false
end Go.Proofs.YthhkpkfpifllkaaGreat

namespace Go.Proofs.YthhkpkfpifllkaaGreat
open Go.RowKit
set_option linter.unusedVariables false

theorem end_box (w : World) (fa : Option Addr) (K fc : Nat) (clock low t nv : Int) (major : Bool) : ∃ X, X = w.alloc (.cells #[.slice fa K fc, .int .i64 clock, .bool major, .int .i64 low, .int .i64 t, .int .i64 nv] 62) ∧ Below w.heap.size w X ∧ X.heap.size = w.heap.size + 1 ∧ CBx X w.heap.size fa K fc clock major low t nv :=
  ⟨_, rfl, (Below.refl _ w).alloc (Nat.le_refl _) _, by rw [World.size_alloc], heap_new w _⟩
theorem FlBx.lastZ {w : World} {q : Nat} {pf pr : Option Addr} {vi vo : Value} {la : EntD} {has : Bool} {ct : Ct} (h : FlBx w q pf pr vi vo la has ct) : ∃ Y, Y = (((((((((w.setCell ⟨q, 2, none⟩ (.slice none 0 0)).setCell ⟨q, 3, none⟩ (.slice none 0 0)).setCell ⟨q, 11, none⟩ (.bool false)).setCell ⟨q, 4, none⟩ (.slice none 0 0)).setCell ⟨q, 5, none⟩ (.int .i64 0)).setCell ⟨q, 6, none⟩ (.slice none 0 0)).setCell ⟨q, 7, none⟩ (.int .i64 0)).setCell ⟨q, 8, none⟩ (.int .i64 0)).setCell ⟨q, 9, none⟩ (.int .i64 0)).setCell ⟨q, 10, none⟩ (.slice none 0 0) ∧ FlBx Y q pf pr (.slice none 0 0) (.slice none 0 0) entZ false ct ∧ w.grownBy Y (some q) :=
  ⟨_, rfl, (((h.setIn (.slice none 0 0)).setOut (.slice none 0 0)).setHas false).setLast entZ, grownQ (grownQ (grownQ (grownQ (grownQ (grownQ (grownQ (grownQ (grownQ (grown1 _ _ _ _) (grown1 _ _ _ _)) (grown1 _ _ _ _)) (grown1 _ _ _ _)) (grown1 _ _ _ _)) (grown1 _ _ _ _)) (grown1 _ _ _ _)) (grown1 _ _ _ _)) (grown1 _ _ _ _)) (grown1 _ _ _ _)⟩
end Go.Proofs.YthhkpkfpifllkaaGreat

namespace Go.Proofs.YthhkpkfpifllkaaGreat
open Go.RowKit
set_option linter.unusedVariables false
end Go.Proofs.YthhkpkfpifllkaaGreat

namespace Go.Proofs.YthhkpkfpifllkaaGreat
open Go.RowKit
set_option linter.unusedVariables false

theorem schema_tl {fs : List FamD} (h : SchemaOk fs) : ∀ f ∈ fs, 0 ≤ f.tl ∧ f.tl ≤ 1099511627776 := fun f hf => by
  obtain ⟨i, hi⟩ := List.getElem?_of_mem hf
  exact (h.2 i f hi).1.2.2
theorem rw_empty {w : World} {N : Nat} {v : Value} {xs : List EntD} {O : Nat → Prop} (h : Rw w N v xs O) (hO : ∀ i, ¬ O i) : xs = [] := by
  rcases h.row.2 with ⟨h1, h2⟩ | ⟨g, cap, cur, h1, _⟩
  · exact List.eq_nil_of_length_eq_zero h2
  · exact absurd (h.rowO g (by rw [h1]; rfl)) (hO g)
theorem tf_all {hd : List En} {fb N : Nat} {c0 : Value} {major : Bool} {low : Int} {W : World} {vs : List Vd} (h : TF hd fb N c0 major low W (fun i => i = fb) vs) : hd = outS major low vs := by
  obtain ⟨xs, ov, Or, h1, h2, h3, h4, h5⟩ := h.st
  have := rw_empty h2 (fun i hi => h3 (h4 i hi ▸ hi))
  subst this
  simpa using h5
theorem Fl.start {B wb g rb q c' : Nat} {a' : Option Addr} {fs : List FamD} {clock : Int} {T : List En → World → (Nat → Prop) → List Vd → Prop} {OO : List Vd → List En} {pf pr : Option Addr} {ct : Ct} {W : World} (h0 : OO [] = []) (hq : B ≤ q) (hr : B ≤ rb) (hw : B ≤ wb) (n1 : q ≠ rb) (n2 : q ≠ wb) (bx : FlBx W q pf pr (.slice none 0 0) (.slice none 0 0) entZ false ct) (re : Rest B wb g rb (.slice a' fs.length c') fs clock (T []) W spZ []) : ∃ P, Fl B wb g rb q (.slice a' fs.length c') fs clock T OO pf pr ct [] W 0 P := by
  have nz : ∀ i, ¬ EBl entZ i := fun i z => by rcases z with z | z | z <;> cases z
  have nl : ∀ i, ¬ Lst spZ i := fun i z => by rcases z with z | z | z <;> cases z
  refine ⟨_, [], [], entZ, _, _, spZ, [], [], [], (fun _ => False), (fun _ => False), ⟨bx, ?_, Rw.nil _ _ _, Rw.nil _ _ _, ⟨ownNil _ _, ownNil _ _, ownNil _ _, (fun k hk => by cases hk), (fun k hk => by cases hk), (fun k hk => by cases hk)⟩, ⟨hq, hw, hr⟩, fun i hi => hi.elim False.elim False.elim, ⟨?_, id, id, nz q⟩, fun i hi => ⟨id, id, nz i⟩, fun i hi => hi.elim, fun i hi => hi.elim⟩, ⟨.nil, rfl, h0.symm, (fun z => by cases z), ?_, (fun x hx => by cases hx), (fun v hv => by cases hv), Nat.le_refl _⟩, rfl⟩
  · show Rest B wb g rb _ fs clock (T (OO [])) W spZ []
    rw [h0]; exact re
  · rintro (z | z | z | z)
    · exact n2 z
    · exact n1 z
    · exact nl q z
    · obtain ⟨a, c, e1, ho⟩ := re.fam
      rw [e1] at z
      have t1 := row_tyd ho.2 z
      exact (t1.ne (g' := q) ⟨_, _, bx⟩ (by decide)) rfl
  · exact ⟨⟨⟨(fun x hx => by cases hx), (fun x hx => by cases hx), (fun x hx => by cases hx)⟩, by decide, by decide, by decide⟩, by decide, by decide, by decide⟩
def Made (B0 : Nat) (cv : Value) (RD : World → Prop) (w w' : World) (r : Ending) : Prop := ∃ pp P, r = .returned (.tuple #[.pointer pp, .bool true]) ∧ FlowO B0 cv RD pp w' 0 P ∧ Below w.heap.size w w' ∧ ∀ i, P i → w.heap.size ≤ i
end Go.Proofs.YthhkpkfpifllkaaGreat
