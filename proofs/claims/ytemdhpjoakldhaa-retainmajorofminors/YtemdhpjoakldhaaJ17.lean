import Derived.Test.YtemdhpjoakldhaaJ16
import Derived.Test.YtemdhpjoakldhaaJ05
namespace Go.Proofs.Ytemdhpjoakldhaa
open Go.RowKit Go.Maps
set_option linter.unusedVariables false

/-- Entries that are being cloned, one by one. -/
structure Cl (W wr : World) (zs : List EntD) (v : Value) : Prop where
  row : wr.ownsRow W.heap.size 38 7 v zs.length (evals zs)
  ents : ∀ x ∈ zs, O3 wr W.heap.size x
  ap : zs.Pairwise Dsj
  below : Below W.heap.size W wr
theorem Cl.rw {W wr : World} {zs : List EntD} {v : Value} (h : Cl W wr zs v) : Rw wr W.heap.size v zs (fun i => W.heap.size ≤ i ∧ i < wr.heap.size) :=
  ⟨h.row, h.ents, h.ap, fun k hk => h.row.lt k hk, fun x hx k hk => (h.ents x hx).lt k hk⟩
theorem row_ku {W w w' : World} {zs : List EntD} {v : Value} {B : Nat} (h : w.ownsRow B 38 7 v zs.length (evals zs)) (g : w.grownBy w' v.ownBlock) : KU w w' :=
  KU.grown g fun r hr => by
    rcases h.2 with ⟨h1, _⟩ | ⟨g', cap, cur, h3, h4, h5, _⟩
    · rw [h1] at hr; cases hr
    · rw [h3] at hr; cases hr; exact ⟨cur, _, _, h5, by decide⟩
theorem Cl.add {W wr w1 w3 : World} {zs : List EntD} {v u : Value} {x : EntD} (h : Cl W wr zs v) (b : Below wr.heap.size wr w1) (o : O3 w1 wr.heap.size x) {ob : Obj} (g : (w1.alloc ob).grownBy w3 v.ownBlock) (r : w3.ownsRow W.heap.size 38 7 u (zs ++ [x]).length (evals (zs ++ [x]))) : Cl W w3 (zs ++ [x]) u := by
  have A := (Below.refl w1.heap.size w1).alloc (Nat.le_refl _) ob
  have r1 : (w1.alloc ob).ownsRow W.heap.size 38 7 v zs.length (evals zs) := row_same h.row (fun g hg => (A.block g (Nat.lt_of_lt_of_le (h.row.lt g hg).2 b.size)).trans (b.block g (h.row.lt g hg).2))
  have ku := (KU.of A).trans (row_ku (W := W) r1 g)
  have bb := h.below.trans (b.mono h.below.size)
  refine ⟨r, fun y hy => ?_, ?_, ?_⟩
  · rcases List.mem_append.1 hy with q | q
    · exact ((h.ents y q).later b).ku ku
    · rw [List.mem_singleton] at q
      subst q
      exact (o.mono h.below.size).ku ku
  · rw [List.pairwise_append]
    refine ⟨h.ap, List.pairwise_singleton _ _, fun a ha c hc g hg hk => ?_⟩
    rw [List.mem_singleton] at hc
    subst hc
    have := (h.ents a ha).lt g hg
    have := o.lt g hk
    omega
  · have bA := bb.trans (A.mono bb.size)
    exact bA.grown g bA.size (fun k hk => (h.row.lt k hk).1)
set_option maxRecDepth 100000 in
set_option maxHeartbeats 4000000 in
theorem cloneAll_any {W : World} {a : Option Addr} {cap : Nat} {l : List EntD} (h0 : RdL3 W a cap l) (hs : ∀ x ∈ l, Shrt x) (hl : l.length ≤ 1353245080300) :
    Calls Try.prog 21 #[.slice a l.length cap] W fun r W' => ∃ v zs, r = .returned v ∧ Cl W W' zs v ∧ zs.map EntD.dat = l.map EntD.dat := by
  obtain ⟨N, hN⟩ : ∃ N, N = l.length := ⟨_, rfl⟩
  rw [← hN] at hl ⊢
  have HN := Lib.hid hN
  have HR := Lib.hid h0
  have HS := Lib.hid hs
  clear hN h0 hs
  go_enter Try.func21, Try.ntmps21
  go_wp2
  go_loopw [3, 4] (fun o i wr => ∃ (k : Nat) (zs : List EntD) (a' : Option Addr) (c' : Nat), k ≤ N ∧ i = .int .i64 (k : Int) ∧ o = .slice a' zs.length c' ∧ Hid (Cl W wr zs (.slice a' zs.length c') ∧ zs.map EntD.dat = (l.take k).map EntD.dat)) (fun _ i _ => N - (intOf i).toNat)
  case atStart => exact ⟨0, [], none, 0, Nat.zero_le _, rfl, rfl, ⟨(Rw.nil W W.heap.size (fun _ => True)).row, by simp, List.Pairwise.nil, Below.refl _ _⟩, by simp⟩
  case round =>
    obtain ⟨k, zs, a', c', hk, rfl, rfl, HO⟩ := hrel
    have k0 : (0 : Int) ≤ (k : Int) := by omega
    by_cases hlt : k < N
    · have hlt2 : (k : Int) < (N : Int) := by omega
      obtain ⟨e, he⟩ : ∃ e, l[k]? = some e := ⟨l[k]'(by rw [← HN.out]; exact hlt), List.getElem?_eq_getElem _⟩
      have hrd := HR.out.later HO.out.1.below
      have hok := hrd.ok e (List.mem_of_getElem? he)
      rcases hrd.at_ with h0 | ⟨b, off, rfl, hc⟩
      · rw [h0] at he; simp at he
      have d0 := hc k e he 0 e.vr rfl
      have d1 := hc k e he 1 (.int .i64 e.fam) rfl
      have d2 := hc k e he 2 e.vq rfl
      have d3 := hc k e he 3 (.int .i64 e.ts) rfl
      have d4 := hc k e he 4 (.int .i64 e.seq) rfl
      have d5 := hc k e he 5 (.int .i64 e.kind) rfl
      have d6 := hc k e he 6 e.vv rfl
      simp only [Nat.add_zero] at d0
      have HE := Lib.hid he
      have HCl := Lib.hid (cloneR_own hok (HS.out e (List.mem_of_getElem? he)))
      have hzl : zs.length = k := by
        have := congrArg List.length HO.out.2
        rw [List.length_map, List.length_map, List.length_take] at this
        rw [HN.out] at hlt
        omega
      have HZl := Lib.hid hzl
      unfold EntD.cells at HCl
      clear hrd hok hc he hzl
      go_wp2_with fail
      refine Calls.mono HCl.out ?_
      rintro z1 w1 ⟨x, rfl, sx, ok1, o31, b1⟩
      have HSx := Lib.hid (EntD.dat_same.2 sx)
      have O31 := Lib.hid o31
      have B1 := Lib.hid b1
      obtain ⟨xr, xf, xq, xt, xs2, xk, xv, xrow, xqual, xval⟩ := x
      obtain ⟨ar, cr, er⟩ := own_form' o31.row
      obtain ⟨aq, cq, eq⟩ := own_form' o31.qual
      obtain ⟨aw, cw, ew⟩ := own_form' o31.val
      simp only at er eq ew
      subst er eq ew
      dsimp only
      clear sx ok1 o31 b1 HCl d0 d1 d2 d3 d4 d5 d6
      have A := Lib.hid ((Below.refl w1.heap.size w1).alloc (Nat.le_refl _) (.cells #[.slice ar xrow.length cr, .int .i64 xf, .slice aq xqual.length cq, .int .i64 xt, .int .i64 xs2, .int .i64 xk, .slice aw xval.length cw] 38))
      have HRow : Hid ((w1.alloc (.cells #[.slice ar xrow.length cr, .int .i64 xf, .slice aq xqual.length cq, .int .i64 xt, .int .i64 xs2, .int .i64 xk, .slice aw xval.length cw] 38)).ownsRow W.heap.size 38 7 (.slice a' zs.length c') zs.length (evals zs)) := row_same HO.out.1.row (fun g hg => (A.out.block g (Nat.lt_of_lt_of_le (HO.out.1.row.lt g hg).2 B1.out.size)).trans (B1.out.block g (HO.out.1.row.lt g hg).2))
      have HSz : Hid (W.heap.size ≤ (w1.alloc (.cells #[.slice ar xrow.length cr, .int .i64 xf, .slice aq xqual.length cq, .int .i64 xt, .int .i64 xs2, .int .i64 xk, .slice aw xval.length cw] 38)).heap.size) := Nat.le_trans HO.out.1.below.size (Nat.le_trans B1.out.size A.out.size)
      go_wp2_with (at_builtin; refine wpl_append_ent (x := (⟨.slice ar xrow.length cr, xf, .slice aq xqual.length cq, xt, xs2, xk, .slice aw xval.length cw, xrow, xqual, xval⟩ : EntD)) (xs := zs) rfl _ _ rfl rfl HRow.out ⟨w1.heap.size, 0, none⟩ rfl (ent_new w1 (⟨.slice ar xrow.length cr, xf, .slice aq xqual.length cq, xt, xs2, xk, .slice aw xval.length cw, xrow, xqual, xval⟩ : EntD)) (O3.cells_one O31.out) (by have := HZl.out; omega) HSz.out ?_)
      intro a4 c4 X4 row4 gr4
      have H4 := Lib.hid (HO.out.1.add B1.out O31.out gr4 (u := .slice a4 (zs.length + 1) c4) (by rw [List.length_append]; exact row4))
      have HD : Hid ((zs ++ [(⟨.slice ar xrow.length cr, xf, .slice aq xqual.length cq, xt, xs2, xk, .slice aw xval.length cw, xrow, xqual, xval⟩ : EntD)]).map EntD.dat = (l.take (k + 1)).map EntD.dat) := by
        unfold Hid
        rw [List.take_add_one, HE.out, List.map_append, List.map_append, HO.out.2]
        simp only [List.map_cons, List.map_nil, Option.toList_some]
        rw [HSx.out]
      clear row4 gr4 HRow HSz A
      go_wp2
      go_roundw
      case rel => exact ⟨k + 1, _, a4, c4, by omega, by go_num, by rw [List.length_append]; rfl, by rw [List.length_append]; exact H4.out, HD.out⟩
      case measure => simp only [intOf]; omega
    · have hg : ¬ (k : Int) < (N : Int) := by omega
      have HF : Hid (zs.map EntD.dat = l.map EntD.dat) := by
        unfold Hid
        rw [HO.out.2, List.take_of_length_le (by rw [← HN.out]; omega)]
      go_wp2
      go_ret
      exact ⟨_, rfl, zs, HO.out.1, HF.out⟩
theorem evals_app3 (a b : List EntD) : evals (a ++ b) = evals a ++ evals b := by simp [evals]
theorem evals_get3 : ∀ {xs : List EntD} {j : Nat} {u : Value}, (evals xs)[j]? = some u → ∃ x, xs[j / 7]? = some x ∧ x.cells.toList[j % 7]? = some u
  | [], j, u, h => by simp [evals] at h
  | x :: xs, j, u, h => by
    rw [evals_cons] at h
    by_cases hj : j < 7
    · rw [List.getElem?_append_left (show j < x.cells.toList.length from hj)] at h
      rw [Nat.div_eq_of_lt hj, Nat.mod_eq_of_lt hj]
      exact ⟨x, by simp, h⟩
    · rw [List.getElem?_append_right (show x.cells.toList.length ≤ j from by show 7 ≤ j; omega)] at h
      have h' : (evals xs)[j - 7]? = some u := h
      obtain ⟨y, h1, h2⟩ := evals_get3 h'
      have e1 : j / 7 = (j - 7) / 7 + 1 := by omega
      have e2 : j % 7 = (j - 7) % 7 := by omega
      rw [e1, e2]
      exact ⟨y, by simpa using h1, h2⟩
set_option maxRecDepth 100000 in
/-- append of an own list of entries to an own one. -/
theorem wpl_append_own2 {w : World} {ops : Array Oper} {rest : List Oper} {o : Oper} {a : Act} {Q : Exit → Act → World → Prop} (hgd : o.guard = none) (s x : Operand)
    (ho : o.op = .call { callee := .builtin .append, args := #[s, x], argTypes := #[25, 25] })
    (B C : Nat) (v : Value) (xs : List EntD) (hs : a.eval s = v) (hown : w.ownsRow B 38 7 v xs.length (evals xs))
    (u : Value) (ys : List EntD) (hx : a.eval x = u) (hu : w.ownsRow C 38 7 u ys.length (evals ys)) (ho3 : ∀ y ∈ ys, O3 w C y) (hn : (xs.length + ys.length) * 104 ≤ 140737488355328) (hB : B ≤ w.heap.size)
    (h : ∀ a' n' c' w', n' = (xs ++ ys).length → w'.ownsRow B 38 7 (.slice a' n' c') (xs ++ ys).length (evals (xs ++ ys)) → w.grownBy w' v.ownBlock → wpList Try.prog ops Q rest (a.put o.dst (.slice a' n' c')) w') : wpList Try.prog ops Q (o :: rest) a w := by
  obtain ⟨i0, hi, hz0, hz1, hz2⟩ := info_parts info_ent3
  rcases hu.2 with ⟨h1, h2⟩ | ⟨g, cap, cur, h1, h2, h3, h4, h5, h6, h7⟩
  · have hz := List.eq_nil_of_length_eq_zero h2
    subst hz
    obtain ⟨a', c', rfl⟩ := rows_form3 hown
    refine wpList_append_own_none hgd s x 25 ho B 38 i0 7 und_ents3 hi _ _ _ hs hown (by rw [hx, h1]) ?_
    exact h _ _ _ _ (by simp) (by simpa using hown) ⟨rfl, rfl, rfl, Nat.le_refl _, fun _ _ _ => rfl⟩
  · refine wpList_append_own _ hgd s x 25 ho B 38 i0 _ 7 104 und_ents3 hi hz0 hz1 hz2 rfl (by decide) _ _ _ hs hown ⟨g, 0, none⟩ ys.length cap (evals ys) (by rw [hx, h1]) (evals_len ys) (fun j u hj => ?_) (fun u hu => ?_) (by unfold maxLen; omega) (by omega) hB ?_
    · obtain ⟨y, e1, e2⟩ := evals_get3 hj
      have e : (⟨g, 0, none⟩ : Addr).add j = ⟨g, j, none⟩ := by unfold Addr.add; split <;> simp_all
      rw [e]
      have hu' := hu
      rw [h1] at hu'
      obtain ⟨g2, e3, _, _, hc⟩ := row_cells3 hu' e1
      cases e3
      have := hc _ _ e2
      rwa [show j / 7 * 7 + j % 7 = j from by omega] at this
    · obtain ⟨j, hj⟩ := List.getElem?_of_mem hu
      obtain ⟨y, e1, e2⟩ := evals_get3 hj
      exact (ho3 y (List.mem_of_getElem? e1)).cells_one u (List.mem_of_getElem? e2)
    · intro v' w' k1 k2 k3
      rw [← evals_app3, ← List.length_append] at k1
      obtain ⟨a', c', rfl⟩ := rows_form3 k1
      exact h _ _ _ _ rfl k1 k2
set_option maxRecDepth 100000 in
set_option maxHeartbeats 4000000 in
theorem join_own {W : World} {a b : Option Addr} {c d : Nat} {la lb : List EntD} (h1 : RdL3 W a c la) (h2 : RdL3 W b d lb) (s1 : ∀ x ∈ la, Shrt x) (s2 : ∀ x ∈ lb, Shrt x) (hl : la.length + lb.length ≤ 1353245080300) :
    Calls Try.prog 13 #[.slice a la.length c, .slice b lb.length d] W fun r W' => ∃ v zs, r = .returned v ∧ Cl W W' zs v ∧ zs.map EntD.dat = la.map EntD.dat ++ lb.map EntD.dat := by
  have H1 := Lib.hid (cloneAll_any h1 s1 (by omega))
  have H2 := Lib.hid (fun (Z : World) (b' : Below W.heap.size W Z) => cloneAll_any (h2.later b') s2 (by omega))
  obtain ⟨N, hN⟩ : ∃ N, N = la.length := ⟨_, rfl⟩
  obtain ⟨M, hM⟩ : ∃ M, M = lb.length := ⟨_, rfl⟩
  have HL : Hid (la.length + lb.length ≤ 1353245080300) := hl
  rw [← hN] at H1 ⊢
  rw [← hM] at H2 ⊢
  clear h1 h2 s1 s2 hl hN hM
  go_enter Try.func13, Try.ntmps13
  go_wp2_with fail
  refine Calls.mono H1.out ?_
  rintro z1 w1 ⟨v1, xs, rfl, k1, e1⟩
  have K1 := Lib.hid (And.intro k1 e1)
  obtain ⟨a1, c1, rfl⟩ := rows_form3 k1.row
  clear k1 e1
  go_wp2_with fail
  refine Calls.mono (H2.out _ K1.out.1.below) ?_
  rintro z2 w2 ⟨v2, ys, rfl, k2, e2⟩
  obtain ⟨a2, c2, rfl⟩ := rows_form3 k2.row
  have K2 := Lib.hid (And.intro k2 e2)
  have HR1 : Hid (w2.ownsRow W.heap.size 38 7 (.slice a1 xs.length c1) xs.length (evals xs)) := row_same K1.out.1.row (fun g hg => k2.below.block g (K1.out.1.row.lt g hg).2)
  have hx := congrArg List.length K1.out.2
  have hy := congrArg List.length e2
  rw [List.length_map, List.length_map] at hx hy
  have HLn : Hid (xs.length + ys.length ≤ 1353245080300) := by unfold Hid; rw [hx, hy]; exact HL.out
  have HS2 : Hid (W.heap.size ≤ w2.heap.size) := Nat.le_trans K1.out.1.below.size k2.below.size
  clear k2 e2 hx hy
  go_wp2_with (at_builtin; refine wpl_append_own2 rfl _ _ rfl W.heap.size w1.heap.size _ xs rfl HR1.out _ ys rfl K2.out.1.row K2.out.1.ents (by have := HLn.out; omega) HS2.out ?_)
  intro a4 n4 c4 X4 hn4 row4 gr4
  have H4 : Hid (Cl W X4 (xs ++ ys) (.slice a4 n4 c4)) := by
    have ku : KU w2 X4 := row_ku (W := W) HR1.out gr4
    have bb := K1.out.1.below.trans (K2.out.1.below.mono K1.out.1.below.size)
    refine ⟨by rw [List.length_append]; exact row4, fun y hy => ?_, ?_, bb.grown gr4 bb.size (fun k hk => (HR1.out.lt k hk).1)⟩
    · rcases List.mem_append.1 hy with q | q
      · exact ((K1.out.1.ents y q).later K2.out.1.below).ku ku
      · exact ((K2.out.1.ents y q).mono K1.out.1.below.size).ku ku
    · rw [List.pairwise_append]
      refine ⟨K1.out.1.ap, K2.out.1.ap, fun x hx y hy g hg hk => ?_⟩
      have := (K1.out.1.ents x hx).lt g hg
      have := (K2.out.1.ents y hy).lt g hk
      omega
  clear row4 gr4 hn4
  go_wp2
  go_ret
  exact ⟨_, xs ++ ys, rfl, H4.out, by rw [List.map_append, K1.out.2, K2.out.2]⟩
end Go.Proofs.Ytemdhpjoakldhaa

namespace Go.Proofs.Ytemdhpjoakldhaa
open Go.RowKit
set_option linter.unusedVariables false

/-- Below, and what was drawn stays drawn. -/
structure BelowD (B : Nat) (w w' : World) : Prop where
  b : Below B w w'
  d : w.drawn ≤ w'.drawn
theorem BelowD.refl (B : Nat) (w : World) : BelowD B w w := ⟨Below.refl _ _, Nat.le_refl _⟩
theorem BelowD.trans {B : Nat} {a b c : World} (h : BelowD B a b) (k : BelowD B b c) : BelowD B a c := ⟨h.b.trans k.b, Nat.le_trans h.d k.d⟩
theorem BelowD.mono {B B' : Nat} {w w' : World} (h : BelowD B w w') (hB : B' ≤ B) : BelowD B' w w' := ⟨h.b.mono hB, h.d⟩
theorem BelowD.drew {B : Nat} {a w : World} (h : BelowD B a w) : BelowD B a w.drew := ⟨h.b.drew, Nat.le_trans h.d (Nat.le_succ _)⟩
theorem BelowD.alloc {B : Nat} {a w : World} (h : BelowD B a w) (hB : B ≤ w.heap.size) (o : Obj) : BelowD B a (w.alloc o) := ⟨h.b.alloc hB o, h.d⟩
theorem BelowD.size {B : Nat} {w w' : World} (h : BelowD B w w') : w.heap.size ≤ w'.heap.size := h.b.size

set_option maxRecDepth 100000 in
set_option maxHeartbeats 2000000 in
theorem aheadIf_d {a b : EntD} (k : Int) {w : World} :
    Calls Try.prog 87 #[.agg a.cells, .agg b.cells, .int .i64 k] w fun r w' => r = .returned (.int .i64 (aheadS a b k)) ∧ BelowD w.heap.size w w' := by
  obtain ⟨S, hS⟩ : ∃ S, S = aheadS a b k := ⟨_, rfl⟩
  rw [← hS]
  have HS : Hid (cmpI ((mark a.kind k : Nat) : Int) ((mark b.kind k : Nat) : Int) = S) := by unfold Hid; rw [hS]; rfl
  clear hS
  obtain ⟨M1, hM1⟩ : ∃ M, M = mark a.kind k := ⟨_, rfl⟩
  obtain ⟨M2, hM2⟩ : ∃ M, M = mark b.kind k := ⟨_, rfl⟩
  have q1 := fun w => markOf_m a.kind k w
  have q2 := fun w => markOf_m b.kind k w
  have q3 := fun w => cmpByte_any (M1 : Int) (M2 : Int) w
  rw [← hM1] at q1
  rw [← hM2] at q2
  have HS2 : cmpI (M1 : Int) (M2 : Int) = S := by rw [hM1, hM2]; exact HS.out
  rw [HS2] at q3
  have HQ1 : Hid (∀ w, Calls Try.prog 102 #[.int .i64 a.kind, .int .i64 k] w fun e w' => e = .returned (.int .u8 ((M1 : Nat) : Int)) ∧ w' = w) := q1
  have HQ2 : Hid (∀ w, Calls Try.prog 102 #[.int .i64 b.kind, .int .i64 k] w fun e w' => e = .returned (.int .u8 ((M2 : Nat) : Int)) ∧ w' = w) := q2
  have HQ3 : Hid (∀ w, Calls Try.prog 101 #[.int .u8 (M1 : Int), .int .u8 (M2 : Int)] w fun e w' => e = .returned (.int .i64 S) ∧ w' = w) := q3
  clear q1 q2 q3 hM1 hM2 HS HS2
  have A1 := (BelowD.refl w.heap.size w).alloc (Nat.le_refl _) (.cells a.cells 38)
  have A2 := A1.alloc A1.size (.cells b.cells 38)
  have bxa : Hid (EBox ((w.alloc (.cells a.cells 38)).alloc (.cells b.cells 38)) w.heap.size a) := (EBox.new w a).later ((Below.refl _ _).alloc (Nat.le_refl _) _)
  have bxb : Hid (EBox ((w.alloc (.cells a.cells 38)).alloc (.cells b.cells 38)) (w.heap.size + 1) b) := by
    have := EBox.new (w.alloc (.cells a.cells 38)) b
    rwa [World.size_alloc] at this
  have A2D : BelowD w.heap.size w ((w.alloc (.cells a.cells 38)).alloc (.cells b.cells 38)).drew := A2.drew
  have ya : ((w.alloc (.cells a.cells 38)).alloc (.cells b.cells 38)).drew.cell? ⟨w.heap.size, 5, none⟩ = some (.int .i64 a.kind) := bxa.out.kind
  have yb : ((w.alloc (.cells a.cells 38)).alloc (.cells b.cells 38)).drew.cell? ⟨w.heap.size + 1, 5, none⟩ = some (.int .i64 b.kind) := bxb.out.kind
  clear A1 bxa bxb
  obtain ⟨vr, fam, vq, ts, seq, ka, vv, row, qual, val⟩ := a
  obtain ⟨vr2, fam2, vq2, ts2, seq2, kb, vv2, row2, qual2, val2⟩ := b
  simp only [EntD.cells] at *
  go_enter Try.func87, Try.ntmps87
  go_wp2_with fail
  go_region_held3 (fun wx => wx.cell? ⟨w.heap.size, 5, none⟩ = some (.int .i64 ka) ∧ wx.cell? ⟨w.heap.size + 1, 5, none⟩ = some (.int .i64 kb) ∧ BelowD w.heap.size w wx) (first | exact ⟨ya, yb, A2D⟩) (first | (go_at_call 102; refine (HQ1.out _).mono ?_; rintro e1 wm ⟨rfl, rfl⟩) | (go_at_call 102; refine (HQ2.out _).mono ?_; rintro e1 wm ⟨rfl, rfl⟩) | (go_at_call 101; refine (HQ3.out _).mono ?_; rintro e1 wm ⟨rfl, rfl⟩))
  all_goals (go_wp2; go_ret; exact ⟨rfl, A2D⟩)

set_option maxRecDepth 100000 in
set_option maxHeartbeats 1000000 in
theorem ord1_d {a b : EntD} {w : World} (ha : EntD.Ok w a) (hb : EntD.Ok w b) :
    Calls Try.prog 82 #[.agg a.cells, .agg b.cells] w fun r w' => r = .returned (.int .i64 (ordC a.row b.row)) ∧ BelowD w.heap.size w w' := by
  have A1 := (BelowD.refl w.heap.size w).alloc (Nat.le_refl _) (.cells a.cells 38)
  have A2 := A1.alloc A1.size (.cells b.cells 38)
  have oa := ha.later A2.b
  have ob := hb.later A2.b
  clear A1 ha hb
  obtain ⟨vr, fam, vq, ts, seq, ka, vv, row, qual, val⟩ := a
  obtain ⟨vr2, fam2, vq2, ts2, seq2, kb, vv2, row2, qual2, val2⟩ := b
  obtain ⟨r1, q1, v1⟩ := oa
  obtain ⟨r2, q2, v2⟩ := ob
  simp only [EntD.cells] at *
  go_enter Try.func82, Try.ntmps82
  go_wp2_with fail
  refine (bytesCompare_any r1 r2).mono ?_
  rintro e1 w1 ⟨rfl, rfl⟩
  go_wp2
  go_ret
  exact ⟨rfl, A2⟩

set_option maxRecDepth 100000 in
set_option maxHeartbeats 1000000 in
theorem ord2_d {a b : EntD} {w : World} (ha : EntD.Ok w a) (hb : EntD.Ok w b) :
    Calls Try.prog 84 #[.agg a.cells, .agg b.cells] w fun r w' => r = .returned (.int .i64 (cmpI a.fam b.fam)) ∧ BelowD w.heap.size w w' := by
  have A1 := (BelowD.refl w.heap.size w).alloc (Nat.le_refl _) (.cells a.cells 38)
  have A2 := A1.alloc A1.size (.cells b.cells 38)
  have oa := ha.later A2.b
  have ob := hb.later A2.b
  clear A1 ha hb
  obtain ⟨vr, fam, vq, ts, seq, ka, vv, row, qual, val⟩ := a
  obtain ⟨vr2, fam2, vq2, ts2, seq2, kb, vv2, row2, qual2, val2⟩ := b
  obtain ⟨r1, q1, v1⟩ := oa
  obtain ⟨r2, q2, v2⟩ := ob
  simp only [EntD.cells] at *
  go_enter Try.func84, Try.ntmps84
  go_wp2_with fail
  refine (cmpInt_any _ _ _).mono ?_
  rintro e1 w1 ⟨rfl, rfl⟩
  go_wp2
  go_ret
  exact ⟨rfl, A2⟩

set_option maxRecDepth 100000 in
set_option maxHeartbeats 1000000 in
theorem ord3_d {a b : EntD} {w : World} (ha : EntD.Ok w a) (hb : EntD.Ok w b) :
    Calls Try.prog 86 #[.agg a.cells, .agg b.cells] w fun r w' => r = .returned (.int .i64 (aheadS a b 5)) ∧ BelowD w.heap.size w w' := by
  have A1 := (BelowD.refl w.heap.size w).alloc (Nat.le_refl _) (.cells a.cells 38)
  have A2 := A1.alloc A1.size (.cells b.cells 38)
  have oa := ha.later A2.b
  have ob := hb.later A2.b
  clear A1 ha hb
  have c1 := aheadIf_d (a := a) (b := b) 5 (w := (w.alloc (.cells a.cells 38)).alloc (.cells b.cells 38))
  obtain ⟨S, hS⟩ : ∃ S, S = aheadS a b 5 := ⟨_, rfl⟩
  rw [← hS] at c1 ⊢
  have HC : Hid (Calls Try.prog 87 #[.agg a.cells, .agg b.cells, .int .i64 5] ((w.alloc (.cells a.cells 38)).alloc (.cells b.cells 38)) fun r w' => r = .returned (.int .i64 S) ∧ BelowD ((w.alloc (.cells a.cells 38)).alloc (.cells b.cells 38)).heap.size ((w.alloc (.cells a.cells 38)).alloc (.cells b.cells 38)) w') := c1
  clear c1 hS
  obtain ⟨vr, fam, vq, ts, seq, ka, vv, row, qual, val⟩ := a
  obtain ⟨vr2, fam2, vq2, ts2, seq2, kb, vv2, row2, qual2, val2⟩ := b
  obtain ⟨r1, q1, v1⟩ := oa
  obtain ⟨r2, q2, v2⟩ := ob
  simp only [EntD.cells] at *
  go_enter Try.func86, Try.ntmps86
  go_wp2_with fail
  refine HC.out.mono ?_
  rintro e1 w1 ⟨rfl, hb1⟩
  have B1 := A2.trans (hb1.mono A2.size)
  go_wp2
  go_ret
  exact ⟨rfl, B1⟩

set_option maxRecDepth 100000 in
set_option maxHeartbeats 1000000 in
theorem ord4_d {a b : EntD} {w : World} (ha : EntD.Ok w a) (hb : EntD.Ok w b) :
    Calls Try.prog 88 #[.agg a.cells, .agg b.cells] w fun r w' => r = .returned (.int .i64 (ordC a.qual b.qual)) ∧ BelowD w.heap.size w w' := by
  have A1 := (BelowD.refl w.heap.size w).alloc (Nat.le_refl _) (.cells a.cells 38)
  have A2 := A1.alloc A1.size (.cells b.cells 38)
  have oa := ha.later A2.b
  have ob := hb.later A2.b
  clear A1 ha hb
  obtain ⟨vr, fam, vq, ts, seq, ka, vv, row, qual, val⟩ := a
  obtain ⟨vr2, fam2, vq2, ts2, seq2, kb, vv2, row2, qual2, val2⟩ := b
  obtain ⟨r1, q1, v1⟩ := oa
  obtain ⟨r2, q2, v2⟩ := ob
  simp only [EntD.cells] at *
  go_enter Try.func88, Try.ntmps88
  go_wp2_with fail
  refine (bytesCompare_any q1 q2).mono ?_
  rintro e1 w1 ⟨rfl, rfl⟩
  go_wp2
  go_ret
  exact ⟨rfl, A2⟩

set_option maxRecDepth 100000 in
set_option maxHeartbeats 1000000 in
theorem ord5_d {a b : EntD} {w : World} (ha : EntD.Ok w a) (hb : EntD.Ok w b) :
    Calls Try.prog 89 #[.agg a.cells, .agg b.cells] w fun r w' => r = .returned (.int .i64 (aheadS a b 4)) ∧ BelowD w.heap.size w w' := by
  have A1 := (BelowD.refl w.heap.size w).alloc (Nat.le_refl _) (.cells a.cells 38)
  have A2 := A1.alloc A1.size (.cells b.cells 38)
  have oa := ha.later A2.b
  have ob := hb.later A2.b
  clear A1 ha hb
  have c1 := aheadIf_d (a := a) (b := b) 4 (w := (w.alloc (.cells a.cells 38)).alloc (.cells b.cells 38))
  obtain ⟨S, hS⟩ : ∃ S, S = aheadS a b 4 := ⟨_, rfl⟩
  rw [← hS] at c1 ⊢
  have HC : Hid (Calls Try.prog 87 #[.agg a.cells, .agg b.cells, .int .i64 4] ((w.alloc (.cells a.cells 38)).alloc (.cells b.cells 38)) fun r w' => r = .returned (.int .i64 S) ∧ BelowD ((w.alloc (.cells a.cells 38)).alloc (.cells b.cells 38)).heap.size ((w.alloc (.cells a.cells 38)).alloc (.cells b.cells 38)) w') := c1
  clear c1 hS
  obtain ⟨vr, fam, vq, ts, seq, ka, vv, row, qual, val⟩ := a
  obtain ⟨vr2, fam2, vq2, ts2, seq2, kb, vv2, row2, qual2, val2⟩ := b
  obtain ⟨r1, q1, v1⟩ := oa
  obtain ⟨r2, q2, v2⟩ := ob
  simp only [EntD.cells] at *
  go_enter Try.func89, Try.ntmps89
  go_wp2_with fail
  refine HC.out.mono ?_
  rintro e1 w1 ⟨rfl, hb1⟩
  have B1 := A2.trans (hb1.mono A2.size)
  go_wp2
  go_ret
  exact ⟨rfl, B1⟩

set_option maxRecDepth 100000 in
set_option maxHeartbeats 1000000 in
theorem ord6_d {a b : EntD} {w : World} (ha : EntD.Ok w a) (hb : EntD.Ok w b) :
    Calls Try.prog 90 #[.agg a.cells, .agg b.cells] w fun r w' => r = .returned (.int .i64 (cmpI b.ts a.ts)) ∧ BelowD w.heap.size w w' := by
  have A1 := (BelowD.refl w.heap.size w).alloc (Nat.le_refl _) (.cells a.cells 38)
  have A2 := A1.alloc A1.size (.cells b.cells 38)
  have oa := ha.later A2.b
  have ob := hb.later A2.b
  clear A1 ha hb
  obtain ⟨vr, fam, vq, ts, seq, ka, vv, row, qual, val⟩ := a
  obtain ⟨vr2, fam2, vq2, ts2, seq2, kb, vv2, row2, qual2, val2⟩ := b
  obtain ⟨r1, q1, v1⟩ := oa
  obtain ⟨r2, q2, v2⟩ := ob
  simp only [EntD.cells] at *
  go_enter Try.func90, Try.ntmps90
  go_wp2_with fail
  refine (cmpInt_any _ _ _).mono ?_
  rintro e1 w1 ⟨rfl, rfl⟩
  go_wp2
  go_ret
  exact ⟨rfl, A2⟩

set_option maxRecDepth 100000 in
set_option maxHeartbeats 1000000 in
theorem ord7_d {a b : EntD} {w : World} (ha : EntD.Ok w a) (hb : EntD.Ok w b) :
    Calls Try.prog 91 #[.agg a.cells, .agg b.cells] w fun r w' => r = .returned (.int .i64 (cmpI b.seq a.seq)) ∧ BelowD w.heap.size w w' := by
  have A1 := (BelowD.refl w.heap.size w).alloc (Nat.le_refl _) (.cells a.cells 38)
  have A2 := A1.alloc A1.size (.cells b.cells 38)
  have oa := ha.later A2.b
  have ob := hb.later A2.b
  clear A1 ha hb
  obtain ⟨vr, fam, vq, ts, seq, ka, vv, row, qual, val⟩ := a
  obtain ⟨vr2, fam2, vq2, ts2, seq2, kb, vv2, row2, qual2, val2⟩ := b
  obtain ⟨r1, q1, v1⟩ := oa
  obtain ⟨r2, q2, v2⟩ := ob
  simp only [EntD.cells] at *
  go_enter Try.func91, Try.ntmps91
  go_wp2_with fail
  refine (cmpInt_any _ _ _).mono ?_
  rintro e1 w1 ⟨rfl, rfl⟩
  go_wp2
  go_ret
  exact ⟨rfl, A2⟩

set_option maxRecDepth 100000 in
set_option maxHeartbeats 1000000 in
theorem ord8_d {a b : EntD} {w : World} (ha : EntD.Ok w a) (hb : EntD.Ok w b) :
    Calls Try.prog 92 #[.agg a.cells, .agg b.cells] w fun r w' => r = .returned (.int .i64 (cmpI a.kind b.kind)) ∧ BelowD w.heap.size w w' := by
  have A1 := (BelowD.refl w.heap.size w).alloc (Nat.le_refl _) (.cells a.cells 38)
  have A2 := A1.alloc A1.size (.cells b.cells 38)
  have oa := ha.later A2.b
  have ob := hb.later A2.b
  clear A1 ha hb
  obtain ⟨vr, fam, vq, ts, seq, ka, vv, row, qual, val⟩ := a
  obtain ⟨vr2, fam2, vq2, ts2, seq2, kb, vv2, row2, qual2, val2⟩ := b
  obtain ⟨r1, q1, v1⟩ := oa
  obtain ⟨r2, q2, v2⟩ := ob
  simp only [EntD.cells] at *
  go_enter Try.func92, Try.ntmps92
  go_wp2_with fail
  refine (cmpInt_any _ _ _).mono ?_
  rintro e1 w1 ⟨rfl, rfl⟩
  go_wp2
  go_ret
  exact ⟨rfl, A2⟩

end Go.Proofs.Ytemdhpjoakldhaa

