import Derived.Test.YtchebhafabhabaaGreatDoorK15
namespace Go.Proofs.YtchebhafabhabaaGreatDoor
open Go.RowKit Go.Shelf
set_option linter.unusedVariables false
attribute [local go_sem] Oper.semAt_some

def RaP (W : World) (r : Nat) (a : Option Addr) (cap : Nat) (l : List EntD) (s : Bs) (e : EntD) (x : Ending) (w' : World) : Prop :=
 Below W.heap.size W w' ∧ ∃ a' n' c', x = .returned (.tuple #[.slice a' n' c', .int .i64 (((addE r s e).1 : Nat) : Int)]) ∧ ((addE r s e).1 ≠ 0 → a' = a ∧ n' = l.length ∧ c' = cap) ∧ ((addE r s e).1 = 0 → n' = l.length + 1 ∧ RdL5 w' a' c' (l ++ [e]) ∧ ∀ ad, a' = some ad → W.heap.size ≤ ad.block)
theorem up_snoc : ∀ (l : List (List Nat × List Nat)) (k : List Nat) (x : List Nat × List Nat), Up k l → ordC (if l = [] then k else lastK l) x.1 < 0 → Up k (l ++ [x])
 | [], k, x, _, h => ⟨by simpa using h, trivial⟩
 | [y], k, x, h, h2 => ⟨h.1, by simpa [lastK] using h2, trivial⟩
 | y :: z :: t, k, x, h, h2 => ⟨h.1, up_snoc (z :: t) y.1 x h.2 (by simpa [lastK] using h2)⟩
theorem add_len (r : Nat) (s : Bs) (k v : List Nat) : (addB r s k v).es.length + (addB r s k v).ps.length ≤ s.es.length + s.ps.length + k.length + v.length + 40 := by
 have h1 := (uintL_len (shOf r s k)).2
 have h2 := (uintL_len (k.drop (shOf r s k)).length).2
 have h3 := (uintL_len v.length).2
 have h4 : (psOf r s).length ≤ s.ps.length + 4 := by
  unfold psOf
  split
  ·simp [be4]
  ·omega
 simp only [addB, esOf, recL, List.length_append, List.length_drop] at *
 omega
set_option maxRecDepth 100000 in
set_option maxHeartbeats 8000000 in
theorem refAdd5_any {W : World} {a : Option Addr} {cap r : Nat} {l : List EntD} {s : Bs} {e : EntD} (hr : RdL5 W a cap l) (he : EntD.Ok W e) (hr1 : 1 ≤ r) (hr16 : r ≤ 16) (hs : bldS r Bs.zero l = (0, s)) (hl2 : l.length ≤ 200) :
  Calls Tryz.prog 11 #[.int .i64 (r : Int), .slice a l.length cap, .agg e.cells] W fun x w' => RaP W r a cap l s e x w' := by
 obtain ⟨N, hN⟩ : ∃ N, N = l.length := ⟨_, rfl⟩
 rw [← hN]
 have hN2 : N ≤ 200 := by omega
 have A0 := (Below.refl W.heap.size W).alloc (Nat.le_refl _) (.cells e.cells 40)
 have bx := EBox.new W e
 have hS0 : (W.alloc (.cells e.cells 40)).heap.size = W.heap.size + 1 := by simp
 have hone : ∀ y ∈ l, ∀ u ∈ y.cells.toList, u.oneCell' = true := fun y hy => one_cells (hr.ok y hy)
 have hcap := hr.cap
 obtain ⟨X0, hX0⟩ : ∃ X, X = W.alloc (.cells e.cells 40) := ⟨_, rfl⟩
 rw [← hX0] at A0 bx hS0
 have HCk := Lib.hid (refCheck_any (he.later A0))
 have HX0 := Lib.hid hX0
 have HA0 := Lib.hid A0
 have HS0 := Lib.hid hS0
 have HN := Lib.hid hN
 have HR := Lib.hid hr
 have HEo := Lib.hid he
 have HOne1 := Lib.hid hone
 have HBs := Lib.hid hs
 have hce0 : e.cells = e.cells := rfl
 obtain ⟨_, p1, q1, e1, -⟩ := he.1
 obtain ⟨_, p2, q2, e2, -⟩ := he.2.1
 obtain ⟨_, p3, q3, e3, -⟩ := he.2.2
 have hce : e.cells = #[.slice p1 e.row.length q1, .int .i64 e.fam, .slice p2 e.qual.length q2, .int .i64 e.ts, .int .i64 e.seq, .int .i64 e.kind, .slice p3 e.val.length q3] := by unfold EntD.cells; rw [e1, e2, e3]
 obtain ⟨z1, hz1⟩ : ∃ z, z = e.row.length := ⟨_, rfl⟩
 obtain ⟨z2, hz2⟩ : ∃ z, z = e.qual.length := ⟨_, rfl⟩
 obtain ⟨z3, hz3⟩ : ∃ z, z = e.val.length := ⟨_, rfl⟩
 rw [← hz1, ← hz2, ← hz3] at hce
 have HCel : Hid (∀ wx, Below X0.heap.size X0 wx → wx.cell? ⟨W.heap.size, 0, none⟩ = some (.slice p1 z1 q1) ∧ wx.cell? ⟨W.heap.size, 1, none⟩ = some (.int .i64 e.fam) ∧ wx.cell? ⟨W.heap.size, 2, none⟩ = some (.slice p2 z2 q2) ∧ wx.cell? ⟨W.heap.size, 3, none⟩ = some (.int .i64 e.ts) ∧ wx.cell? ⟨W.heap.size, 4, none⟩ = some (.int .i64 e.seq) ∧ wx.cell? ⟨W.heap.size, 5, none⟩ = some (.int .i64 e.kind) ∧ wx.cell? ⟨W.heap.size, 6, none⟩ = some (.slice p3 z3 q3)) := fun wx b => by
  have h := bx.later b
  unfold EBox at h
  rw [hce] at h
  simp [World.cell?, h]
 have HOneF : Hid (∀ wx, EntD.Ok wx e → RdL5 (wx.alloc (.cells #[.slice p1 z1 q1, .int .i64 e.fam, .slice p2 z2 q2, .int .i64 e.ts, .int .i64 e.seq, .int .i64 e.kind, .slice p3 z3 q3] 40)) (some ⟨wx.heap.size, 0, none⟩) 1 [e]) := fun wx h => by
  have := RdL5.one h
  rwa [hce] at this
 have HCe := Lib.hid hce
 rw [hce] at HCk HX0
 rw [hce]
 clear hN hr he hs hone A0 bx hS0 hX0 hce hce0 e1 e2 e3 hz1 hz2 hz3 hl2
 obtain ⟨c0, c1, c2, c3, c4, c5, c6⟩ := HCel.out X0 (Below.refl _ _)
 go_enter Tryz.func11, Tryz.ntmps11
 go_wp2_with fail
 rw [← HX0.out]
 refine Calls.mono HCk.out ?_
 rintro z X1 ⟨rfl, b1⟩
 have HX1 := Lib.hid b1
 have HB1 := Lib.hid (HA0.out.trans (b1.mono HA0.out.size))
 clear b1 HCk HX0 c0 c1 c2 c3 c4 c5 c6
 rcases Decidable.em (checkS e ≠ 0) with hc0 | hcx
 ·have HEnd : Hid (RaP W r a cap l s e (.returned (.tuple #[.slice a N cap, .int .i64 ((checkS e : Nat) : Int)])) X1) := ⟨HB1.out, a, N, cap, by rw [addE_bad hc0], fun _ => ⟨rfl, HN.out, rfl⟩, fun h => absurd ((addE_bad hc0).symm.trans h) hc0⟩
  obtain ⟨ec, hec⟩ : ∃ ec, ec = checkS e := ⟨_, rfl⟩
  rw [← hec] at hc0 HEnd ⊢
  have heci : ¬ (ec : Int) = 0 := by omega
  clear hec
  go_wp2
  go_ret2
  exact HEnd.out
 have hc0 : checkS e = 0 := Decidable.not_not.1 hcx
 rw [hc0]
 have HC0 := Lib.hid hc0
 clear hcx hc0
 have HFo : Hid (s = foldB r Bs.zero (kvL l) ∧ (∀ x ∈ l, checkS x = 0) ∧ Up [] (kvL l) ∧ s.es.length + s.ps.length + 9 ≤ 131072) := by
  have hs := HBs.out
  obtain ⟨hfo, hcs, hups, hszs⟩ := bldS_fold r l Bs.zero (by rw [hs])
  rw [hs] at hfo
  simp only at hfo
  refine ⟨hfo, hcs, hups, ?_⟩
  rw [hfo]
  rcases hszs with h0 | h0
  ·rw [h0]; simp [kvL, foldB, Bs.zero]
  ·omega
 by_cases hN0 : N = 0
 ·have hl0 : l = [] := List.eq_nil_of_length_eq_zero (by rw [← HN.out]; exact hN0)
  have HLt : Hid (ordC s.la (keyL e) < 0) := by
   have e2 : s.la = [] := by rw [HFo.out.1, hl0]; rfl
   unfold Hid
   rw [e2, key_nil]
   decide
  have hN0i : decide (0 < N) = false := by rw [decide_eq_false_iff_not]; omega
  clear hl0 hN0
  go_upto_region 4 with fail
  go_quiet (fail)
  have bX2 := below_drewN (Below.refl X1.heap.size X1) nq
  generalize X1.drewN nq = X2 at *
  clear hN0i
  have HB2 := Lib.hid (HB1.out.trans (bX2.mono HB1.out.size))
  have hrd2 := HR.out.later HB2.out
  have hok2 := HEo.out.later HB2.out
  have HDe2 : Hid (_ ∧ _ ∧ _ ∧ _ ∧ _ ∧ _ ∧ _) := HCel.out X2 (HX1.out.trans (bX2.mono HX1.out.size))
  have HRd2 := Lib.hid (And.intro hrd2 (And.intro (HOne1.out) (And.intro hok2 trivial)))
  have hX2s : W.heap.size + 1 ≤ X2.heap.size := by have h1 := HX1.out.size; have h2 := bX2.size; have h3 := HS0.out; omega
  clear bX2 hrd2 hok2
  obtain ⟨d0, d1, d2, d3, d4, d5, d6⟩ := HDe2.out
  go_wp2_with (at_builtin; refine wpl5_append_rd rfl _ _ rfl X2.heap.size _ [] rfl (World.ownsRow_nil _ _ _ _) _ _ _ l rfl HN.out HRd2.out.1 HRd2.out.2.1 (by simp only [List.length_nil]; have := HN.out; omega) (Nat.le_refl _) ?_; intro a1 n1 c1 Y1 hn1 r1 g1; have Hn1 := Lib.hid hn1; clear hn1; refine Hid.out ?_)
  refine Lib.hid ?_
  have O1 := Lib.hid r1
  have HBx1 := Lib.hid ((Below.refl X2.heap.size X2).grown g1 (Nat.le_refl _) (fun k hk => (by cases hk)))
  have y0 := (HBx1.out.cell (p := ⟨W.heap.size, 0, none⟩) (by show W.heap.size < _; omega)).trans d0
  have y1 := (HBx1.out.cell (p := ⟨W.heap.size, 1, none⟩) (by show W.heap.size < _; omega)).trans d1
  have y2 := (HBx1.out.cell (p := ⟨W.heap.size, 2, none⟩) (by show W.heap.size < _; omega)).trans d2
  have y3 := (HBx1.out.cell (p := ⟨W.heap.size, 3, none⟩) (by show W.heap.size < _; omega)).trans d3
  have y4 := (HBx1.out.cell (p := ⟨W.heap.size, 4, none⟩) (by show W.heap.size < _; omega)).trans d4
  have y5 := (HBx1.out.cell (p := ⟨W.heap.size, 5, none⟩) (by show W.heap.size < _; omega)).trans d5
  have y6 := (HBx1.out.cell (p := ⟨W.heap.size, 6, none⟩) (by show W.heap.size < _; omega)).trans d6
  have HOne := Lib.hid (HOneF.out Y1 (HRd2.out.2.2.1.later HBx1.out))
  have hn1b : n1 ≤ 200 := by rw [Hn1.out, List.nil_append, ← HN.out]; exact hN2
  clear r1 g1 d0 d1 d2 d3 d4 d5 d6
  go_wp2_with (at_builtin; refine wpl5_append_rd rfl _ _ rfl X2.heap.size _ _ rfl (O1.out.alloc _) _ _ _ [e] rfl rfl HOne.out (fun y hy => by simp at hy; subst hy; exact one_cells HRd2.out.2.2.1) (by simp only [List.length_append, List.length_nil, List.length_cons]; have := HN.out; omega) (Nat.le_trans HBx1.out.size (by simp)) ?_; intro a2 n2 c2 Y2 hn2 r2 g2; have Hn2 := Lib.hid hn2; clear hn2; refine Hid.out ?_)
  refine Lib.hid ?_
  have HBx2 := Lib.hid ((HBx1.out.alloc HBx1.out.size (.cells #[.slice p1 z1 q1, .int .i64 e.fam, .slice p2 z2 q2, .int .i64 e.ts, .int .i64 e.seq, .int .i64 e.kind, .slice p3 z3 q3] 40)).grown g2 (Nat.le_trans HBx1.out.size (by simp)) (fun k hk => (O1.out.lt k hk).1))
  have hok9 : ∀ x ∈ l ++ [e], EntD.Ok Y2 x := fun x hx => by
   rcases List.mem_append.1 hx with hx | hx
   ·exact (HRd2.out.1.ok x hx).later HBx2.out
   ·simp at hx
    subst hx
    exact HRd2.out.2.2.1.later HBx2.out
  have HLoc : Hid (∀ ad, a2 = some ad → W.heap.size ≤ ad.block) := by
   intro ad had
   subst had
   have h9 : (Value.slice (some ad) n2 c2).ownBlock = some ad.block := by
    rcases r2.2 with ⟨k1, _⟩ | ⟨g2', cap2, cur2, k1, _⟩
    ·cases k1
    ·simp only [Value.slice.injEq, Option.some.injEq] at k1
     rw [k1.1]
     rfl
   have h8 := (r2.lt _ h9).1
   have h7 := HB2.out.size
   omega
  have hR9 : RdL5 Y2 a2 c2 (l ++ [e]) ∧ n2 = (l ++ [e]).length := by
   rw [List.nil_append] at r2
   obtain ⟨a9, cap9, e9, rd9⟩ := row_rdl5 r2 hok9
   simp only [Value.slice.injEq] at e9
   obtain ⟨rfl, h9, rfl⟩ := e9
   exact ⟨rd9, h9⟩
  have hn9 : (l ++ [e]).length = N + 1 := by rw [List.length_append, ← HN.out]; rfl
  have hs9 : addB r s (keyL e) e.val = foldB r Bs.zero (kvL (l ++ [e])) := by
   have e5 : kvL (l ++ [e]) = kvL l ++ [(keyL e, e.val)] := by simp [kvL]
   rw [e5, foldB_app, ← HFo.out.1]
   rfl
  have hup9 : Up [] (kvL (l ++ [e])) := by
   have e5 : kvL (l ++ [e]) = kvL l ++ [(keyL e, e.val)] := by simp [kvL]
   rw [e5]
   refine up_snoc _ _ _ HFo.out.2.2.1 ?_
   rw [← fold_last r, ← HFo.out.1]
   have := HLt.out
   split <;> first | exact this | (rename_i h0; rw [show s.la = [] by rw [HFo.out.1, h0]; rfl] at this; exact this)
  have hsz9 : (addB r s (keyL e) e.val).es.length + (addB r s (keyL e) e.val).ps.length + 9 ≤ 262144 := by
   have h1 := HFo.out.2.2.2
   have h2 := add_len r s (keyL e) e.val
   have h3 := keyL_len HC0.out
   have h4 := (check_facts HC0.out).2.2.2.2.2.2.2.1
   omega
  have HLy := Lib.hid (lay_wide (r := r) hR9.1 (⟨hr1, hr16, by rw [hs9], by rw [hs9], hup9, by simp [kvL], hsz9⟩ : BladW r (kvL (l ++ [e])) (addB r s (keyL e) e.val).es (addB r s (keyL e) e.val).ps) (fun x hx => by
   rcases List.mem_append.1 hx with hx | hx
   ·exact HFo.out.2.1 x hx
   ·simp at hx
    subst hx
    exact HC0.out))
  rw [hn9] at HLy
  have hn2N : n2 = N + 1 := by rw [hR9.2, hn9]
  subst hn2N
  have HB9 := Lib.hid (HB2.out.trans (HBx2.out.mono HB2.out.size))
  have HR9 := Lib.hid hR9.1
  clear hok9 hR9 hn9 hs9 hup9 hsz9 r2 g2 y0 y1 y2 y3 y4 y5 y6 HOne Hn1 O1 hn1b Hn2
  go_wp2_with fail
  refine Calls.mono HLy.out ?_
  rintro z X9 ⟨a9, m9, c9, rfl, own9, b9⟩
  have hm9 : m9 = (addB r s (keyL e) e.val).es.length + (addB r s (keyL e) e.val).ps.length + 9 := by rw [own9.1, blockL_len]
  have HB10 := Lib.hid (HB9.out.trans (b9.mono HB9.out.size))
  have HR10 := Lib.hid (HR9.out.later b9)
  have HFl : Hid (fullB r s (keyL e) e.val = decide (131072 < m9)) := by
   unfold Hid fullB
   rw [hm9]
   rfl
  clear own9 b9 HLy hm9
  by_cases hf : m9 ≤ 131072
  ·have hfi : ¬ (131072 : Int) < (m9 : Int) := by omega
   have HEnd : Hid (RaP W r a cap l s e (.returned (.tuple #[.slice a2 (N + 1) c2, .int .i64 0])) X9) := by
    have h0 : (addE r s e).1 = 0 := by
     rw [addE_good HC0.out (by rw [ordC_swap s.la (keyL e)]; have := HLt.out; omega) (by rw [HFl.out, decide_eq_false_iff_not]; omega)]
    exact ⟨HB10.out, a2, N + 1, c2, by rw [h0]; rfl, fun h => absurd h0 h, fun _ => ⟨by rw [HN.out], HR10.out, HLoc.out⟩⟩
   go_wp2
   go_ret2
   exact HEnd.out
  ·have hfi : (131072 : Int) < (m9 : Int) := by omega
   have HEnd : Hid (RaP W r a cap l s e (.returned (.tuple #[.slice a N cap, .int .i64 53])) X9) := by
    have h0 : (addE r s e).1 = 53 := addE_full HC0.out (by rw [ordC_swap s.la (keyL e)]; have := HLt.out; omega) (by rw [HFl.out, decide_eq_true_iff]; omega)
    exact ⟨HB10.out, a, N, cap, by rw [h0]; rfl, fun _ => ⟨rfl, HN.out, rfl⟩, fun h => by rw [h0] at h; cases h⟩
   go_wp2
   go_ret2
   exact HEnd.out
 ·obtain ⟨j, hj⟩ : ∃ j, j + 1 = N := ⟨N - 1, by omega⟩
  have hji : (N : Int) - 1 = (j : Int) := by omega
  have hN0i : (0 : Int) < (N : Int) := by omega
  obtain ⟨pe, hpe⟩ : ∃ pe, l[j]? = some pe := ⟨_, List.getElem?_eq_getElem (by rw [← HN.out]; omega)⟩
  have hrd1 := HR.out.later HB1.out
  have hpok := hrd1.ok pe (List.mem_of_getElem? hpe)
  obtain ⟨b, off, rfl, t0, t1, t2, t3, t4, t5, t6⟩ := hrd1.cel hpe
  have HLa : Hid (ordC s.la (keyL e) = compareS pe e) := by
   have e2 : s.la = keyL pe := by
    have e3 : l = l.take j ++ [pe] := by
     have h2 := (List.getElem?_eq_some_iff.1 hpe)
     have h3 : l.take (j + 1) = l.take j ++ [pe] := by rw [List.take_add_one, hpe]; rfl
     rw [← h3, hj, HN.out, List.take_length]
    rw [HFo.out.1, fold_last, e3]
    simp [kvL, lastK_snoc]
   unfold Hid
   rw [e2]
   exact key_ord (HFo.out.2.1 pe (List.mem_of_getElem? hpe)) HC0.out
  obtain ⟨_, pp1, qq1, u1, -⟩ := hpok.1
  obtain ⟨_, pp2, qq2, u2, -⟩ := hpok.2.1
  obtain ⟨_, pp3, qq3, u3, -⟩ := hpok.2.2
  have hpc : pe.cells = #[.slice pp1 pe.row.length qq1, .int .i64 pe.fam, .slice pp2 pe.qual.length qq2, .int .i64 pe.ts, .int .i64 pe.seq, .int .i64 pe.kind, .slice pp3 pe.val.length qq3] := by unfold EntD.cells; rw [u1, u2, u3]
  obtain ⟨y1, hy1⟩ : ∃ z, z = pe.row.length := ⟨_, rfl⟩
  obtain ⟨y2, hy2⟩ : ∃ z, z = pe.qual.length := ⟨_, rfl⟩
  obtain ⟨y3, hy3⟩ : ∃ z, z = pe.val.length := ⟨_, rfl⟩
  rw [u1, ← hy1] at t0
  rw [u2, ← hy2] at t2
  rw [u3, ← hy3] at t6
  rw [← hy1, ← hy2, ← hy3] at hpc
  have HDp : Hid (_ ∧ _ ∧ _ ∧ _ ∧ _ ∧ _ ∧ _) := ⟨t0, t1, t2, t3, t4, t5, t6⟩
  have HDe : Hid (_ ∧ _ ∧ _ ∧ _ ∧ _ ∧ _ ∧ _) := HCel.out X1 HX1.out
  have HCp : Hid (∀ wx, Below X1.heap.size X1 wx → Calls Tryz.prog 48 #[.agg #[.slice pp1 y1 qq1, .int .i64 pe.fam, .slice pp2 y2 qq2, .int .i64 pe.ts, .int .i64 pe.seq, .int .i64 pe.kind, .slice pp3 y3 qq3], .agg #[.slice p1 z1 q1, .int .i64 e.fam, .slice p2 z2 q2, .int .i64 e.ts, .int .i64 e.seq, .int .i64 e.kind, .slice p3 z3 q3]] wx fun r w' => r = .returned (.int .i64 (compareS pe e)) ∧ Below wx.heap.size wx w') := fun wx hx => by
   have h := refCompare_any (hpok.later hx) ((HEo.out.later HB1.out).later hx)
   rw [hpc, HCe.out] at h
   exact h
  obtain ⟨cv, hcv⟩ : ∃ cv, compareS pe e = cv := ⟨_, rfl⟩
  rw [hcv] at HCp HLa
  clear hpe hrd1 hpok t0 t1 t2 t3 t4 t5 t6 u1 u2 u3 hpc hy1 hy2 hy3 hcv
  go_upto_region 4 with fail
  rcases Decidable.em (0 ≤ cv) with hcv2 | hcv2
  ·have HEnd : Hid (∀ X2, Below X1.heap.size X1 X2 → RaP W r (some ⟨b, off, none⟩) cap l s e (.returned (.tuple #[.slice (some ⟨b, off, none⟩) N cap, .int .i64 30])) X2) := fun X2 b3 => by
    have h30 : (addE r s e).1 = 30 := addE_ord HC0.out (by rw [ordC_swap s.la (keyL e), HLa.out]; omega)
    exact ⟨HB1.out.trans (b3.mono HB1.out.size), _, N, cap, by rw [h30]; rfl, fun _ => ⟨rfl, HN.out, rfl⟩, fun h => by rw [h30] at h; cases h⟩
   have BD : Below X1.heap.size X1 X1.drew := (Below.refl _ _).drew
   refine wp_region_noPanic ?_
   refine wp_region_held_drew (S := fun wx => Below X1.heap.size X1 wx) (by kernel_rfl) BD (fun hHeld => ?_)
   refine wpAnyH_take (i := 0) (oi := { dst := some 17, op := _, type := _, pos := _, after := _, guard := _ }) (v := .slice (some ⟨b, off, none⟩) N cap) rfl (by kernel_rfl) (by kernel_rfl) (by kernel_rfl) (fun _ _ _ h => h) (Or.inl ⟨by kernel_rfl, fun wy hy => by (go_simp; first | done | omega)⟩) (by assumption) ?_
   try simp only [Act.put, List.setIfInBounds_toArray, List.set_cons_zero, List.set_cons_succ]
   refine wpAnyH_take (i := 1) (oi := { dst := some 18, op := _, type := _, pos := _, after := _, guard := _ }) (v := .int .i64 (N : Int)) rfl (by kernel_rfl) (by kernel_rfl) (by kernel_rfl) (fun _ _ _ h => h) (Or.inl ⟨by kernel_rfl, fun wy hy => by (go_simp; first | done | omega)⟩) (by assumption) ?_
   try simp only [Act.put, List.setIfInBounds_toArray, List.set_cons_zero, List.set_cons_succ]
   refine wpAnyH_take (i := 2) (oi := { dst := some 19, op := _, type := _, pos := _, after := _, guard := _ }) (v := .bool true) rfl (by kernel_rfl) (by kernel_rfl) (by kernel_rfl) (fun _ _ _ h => h) (Or.inl ⟨by kernel_rfl, fun wy hy => by (go_simp; first | done | omega)⟩) (by assumption) ?_
   try simp only [Act.put, List.setIfInBounds_toArray, List.set_cons_zero, List.set_cons_succ]
   refine wpAnyH_take (i := 3) (oi := { dst := some 20, op := _, type := _, pos := _, after := _, guard := _ }) (v := .bool true) rfl (by kernel_rfl) (by kernel_rfl) (by kernel_rfl) (fun _ _ _ h => h) (Or.inl ⟨by kernel_rfl, fun wy hy => by (go_simp; first | done | omega)⟩) (by assumption) ?_
   try simp only [Act.put, List.setIfInBounds_toArray, List.set_cons_zero, List.set_cons_succ]
   refine wpAnyH_take (i := 4) (oi := { dst := some 21, op := _, type := _, pos := _, after := _, guard := _ }) (v := .slice (some ⟨b, off, none⟩) N cap) rfl (by kernel_rfl) (by kernel_rfl) (by kernel_rfl) (fun _ _ _ h => h) (Or.inl ⟨by kernel_rfl, fun wy hy => by (go_simp; first | done | omega)⟩) (by assumption) ?_
   try simp only [Act.put, List.setIfInBounds_toArray, List.set_cons_zero, List.set_cons_succ]
   refine wpAnyH_take (i := 5) (oi := { dst := some 22, op := _, type := _, pos := _, after := _, guard := _ }) (v := .slice (some ⟨b, off, none⟩) N cap) rfl (by kernel_rfl) (by kernel_rfl) (by kernel_rfl) (fun _ _ _ h => h) (Or.inl ⟨by kernel_rfl, fun wy hy => by (go_simp; first | done | omega)⟩) (by assumption) ?_
   try simp only [Act.put, List.setIfInBounds_toArray, List.set_cons_zero, List.set_cons_succ]
   refine wpAnyH_take (i := 6) (oi := { dst := some 23, op := _, type := _, pos := _, after := _, guard := _ }) (v := .int .i64 (N : Int)) rfl (by kernel_rfl) (by kernel_rfl) (by kernel_rfl) (fun _ _ _ h => h) (Or.inl ⟨by kernel_rfl, fun wy hy => by (go_simp; first | done | omega)⟩) (by assumption) ?_
   try simp only [Act.put, List.setIfInBounds_toArray, List.set_cons_zero, List.set_cons_succ]
   refine wpAnyH_take (i := 7) (oi := { dst := some 24, op := _, type := _, pos := _, after := _, guard := _ }) (v := .int .i64 (j : Int)) rfl (by kernel_rfl) (by kernel_rfl) (by kernel_rfl) (fun _ _ _ h => h) (Or.inl ⟨by kernel_rfl, fun wy hy => by (go_simp; first | done | omega | exact IntWalk.i64_in _ ⟨by omega, by omega⟩)⟩) (by assumption) ?_
   try simp only [Act.put, List.setIfInBounds_toArray, List.set_cons_zero, List.set_cons_succ]
   refine wpAnyH_take (i := 8) (oi := { dst := some 25, op := _, type := _, pos := _, after := _, guard := _ }) (v := .pointer (some ⟨b, off + j * 7, none⟩)) rfl (by kernel_rfl) (by kernel_rfl) (by kernel_rfl) (fun _ _ _ h => h) (Or.inl ⟨by kernel_rfl, fun wy hy => by (go_simp; first | done | omega)⟩) (by assumption) ?_
   try simp only [Act.put, List.setIfInBounds_toArray, List.set_cons_zero, List.set_cons_succ]
   refine wpAnyH_take (i := 9) (oi := { dst := some 26, op := _, type := _, pos := _, after := _, guard := _ }) (v := .agg #[.slice pp1 y1 qq1, .int .i64 pe.fam, .slice pp2 y2 qq2, .int .i64 pe.ts, .int .i64 pe.seq, .int .i64 pe.kind, .slice pp3 y3 qq3]) rfl (by kernel_rfl) (by kernel_rfl) (by kernel_rfl) (fun _ _ _ h => h) (Or.inl ⟨by kernel_rfl, fun wy hy => by (have f0 := (hy.cell (p := ⟨b, off + j * 7, none⟩) (World.block_lt_of_cell? _ _ HDp.out.1)).trans HDp.out.1; have f1 := (hy.cell (p := ⟨b, off + j * 7 + 1, none⟩) (World.block_lt_of_cell? _ _ HDp.out.2.1)).trans HDp.out.2.1; have f2 := (hy.cell (p := ⟨b, off + j * 7 + 2, none⟩) (World.block_lt_of_cell? _ _ HDp.out.2.2.1)).trans HDp.out.2.2.1; have f3 := (hy.cell (p := ⟨b, off + j * 7 + 3, none⟩) (World.block_lt_of_cell? _ _ HDp.out.2.2.2.1)).trans HDp.out.2.2.2.1; have f4 := (hy.cell (p := ⟨b, off + j * 7 + 4, none⟩) (World.block_lt_of_cell? _ _ HDp.out.2.2.2.2.1)).trans HDp.out.2.2.2.2.1; have f5 := (hy.cell (p := ⟨b, off + j * 7 + 5, none⟩) (World.block_lt_of_cell? _ _ HDp.out.2.2.2.2.2.1)).trans HDp.out.2.2.2.2.2.1; have f6 := (hy.cell (p := ⟨b, off + j * 7 + 6, none⟩) (World.block_lt_of_cell? _ _ HDp.out.2.2.2.2.2.2)).trans HDp.out.2.2.2.2.2.2; go_simp; done)⟩) (by assumption) ?_
   try simp only [Act.put, List.setIfInBounds_toArray, List.set_cons_zero, List.set_cons_succ]
   refine wpAnyH_take (i := 10) (oi := { dst := some 27, op := _, type := _, pos := _, after := _, guard := _ }) (v := .agg #[.slice p1 z1 q1, .int .i64 e.fam, .slice p2 z2 q2, .int .i64 e.ts, .int .i64 e.seq, .int .i64 e.kind, .slice p3 z3 q3]) rfl (by kernel_rfl) (by kernel_rfl) (by kernel_rfl) (fun _ _ _ h => h) (Or.inl ⟨by kernel_rfl, fun wy hy => by (have f0 := (hy.cell (p := ⟨W.heap.size, 0, none⟩) (World.block_lt_of_cell? _ _ HDe.out.1)).trans HDe.out.1; have f1 := (hy.cell (p := ⟨W.heap.size, 1, none⟩) (World.block_lt_of_cell? _ _ HDe.out.2.1)).trans HDe.out.2.1; have f2 := (hy.cell (p := ⟨W.heap.size, 2, none⟩) (World.block_lt_of_cell? _ _ HDe.out.2.2.1)).trans HDe.out.2.2.1; have f3 := (hy.cell (p := ⟨W.heap.size, 3, none⟩) (World.block_lt_of_cell? _ _ HDe.out.2.2.2.1)).trans HDe.out.2.2.2.1; have f4 := (hy.cell (p := ⟨W.heap.size, 4, none⟩) (World.block_lt_of_cell? _ _ HDe.out.2.2.2.2.1)).trans HDe.out.2.2.2.2.1; have f5 := (hy.cell (p := ⟨W.heap.size, 5, none⟩) (World.block_lt_of_cell? _ _ HDe.out.2.2.2.2.2.1)).trans HDe.out.2.2.2.2.2.1; have f6 := (hy.cell (p := ⟨W.heap.size, 6, none⟩) (World.block_lt_of_cell? _ _ HDe.out.2.2.2.2.2.2)).trans HDe.out.2.2.2.2.2.2; go_simp; done)⟩) (by assumption) ?_
   try simp only [Act.put, List.setIfInBounds_toArray, List.set_cons_zero, List.set_cons_succ]
   refine wpAnyH_ready (rs := [11]) (by kernel_rfl) (by simp) ?_
   refine AllReadyH.cons (o := { dst := some 28, op := _, type := _, pos := _, after := _, guard := _ }) rfl (fun KK hK => ?_) AllReadyH.nil
   go_simp
   go_at_call 48
   refine (HCp.out _ BD).mono ?_
   rintro e9 X2 ⟨rfl, hb2⟩
   have bX2 : Below X1.heap.size X1 X2 := BD.trans (hb2.mono BD.size)
   clear hb2 BD HCp
   go_wp2_with fail
   refine hK.out _ _ bX2 (fun hHeld => ?_)
   clear hK
   try simp only [Act.put, List.setIfInBounds_toArray, List.set_cons_zero, List.set_cons_succ]
   refine wpAnyH_take (i := 12) (oi := { dst := some 29, op := _, type := _, pos := _, after := _, guard := _ }) (v := .bool true) rfl (by kernel_rfl) (by kernel_rfl) (by kernel_rfl) (fun _ _ _ h => h) (Or.inl ⟨by kernel_rfl, fun wy hy => by (go_simp; first | done | omega)⟩) (by assumption) ?_
   try simp only [Act.put, List.setIfInBounds_toArray, List.set_cons_zero, List.set_cons_succ]
   refine wpAnyH_take (i := 13) (oi := { dst := some 30, op := _, type := _, pos := _, after := _, guard := _ }) (v := .bool true) rfl (by kernel_rfl) (by kernel_rfl) (by kernel_rfl) (fun _ _ _ h => h) (Or.inl ⟨by kernel_rfl, fun wy hy => by (go_simp; first | done | omega)⟩) (by assumption) ?_
   try simp only [Act.put, List.setIfInBounds_toArray, List.set_cons_zero, List.set_cons_succ]
   refine wpAnyH_done (by kernel_rfl) (NoPanic.normal ?_) _
   clear hHeld
   go_simp
   go_step
   have HEnd := Lib.hid (HEnd.out X2 bX2)
   go_wp2
   go_ret2
   exact HEnd.out
  ·have HLt : Hid (ordC s.la (keyL e) < 0) := by unfold Hid; rw [HLa.out]; omega
   have BD : Below X1.heap.size X1 X1.drew := (Below.refl _ _).drew
   refine wp_region_noPanic ?_
   refine wp_region_held_drew (S := fun wx => Below X1.heap.size X1 wx) (by kernel_rfl) BD (fun hHeld => ?_)
   refine wpAnyH_take (i := 0) (oi := { dst := some 17, op := _, type := _, pos := _, after := _, guard := _ }) (v := .slice (some ⟨b, off, none⟩) N cap) rfl (by kernel_rfl) (by kernel_rfl) (by kernel_rfl) (fun _ _ _ h => h) (Or.inl ⟨by kernel_rfl, fun wy hy => by (go_simp; first | done | omega)⟩) (by assumption) ?_
   try simp only [Act.put, List.setIfInBounds_toArray, List.set_cons_zero, List.set_cons_succ]
   refine wpAnyH_take (i := 1) (oi := { dst := some 18, op := _, type := _, pos := _, after := _, guard := _ }) (v := .int .i64 (N : Int)) rfl (by kernel_rfl) (by kernel_rfl) (by kernel_rfl) (fun _ _ _ h => h) (Or.inl ⟨by kernel_rfl, fun wy hy => by (go_simp; first | done | omega)⟩) (by assumption) ?_
   try simp only [Act.put, List.setIfInBounds_toArray, List.set_cons_zero, List.set_cons_succ]
   refine wpAnyH_take (i := 2) (oi := { dst := some 19, op := _, type := _, pos := _, after := _, guard := _ }) (v := .bool true) rfl (by kernel_rfl) (by kernel_rfl) (by kernel_rfl) (fun _ _ _ h => h) (Or.inl ⟨by kernel_rfl, fun wy hy => by (go_simp; first | done | omega)⟩) (by assumption) ?_
   try simp only [Act.put, List.setIfInBounds_toArray, List.set_cons_zero, List.set_cons_succ]
   refine wpAnyH_take (i := 3) (oi := { dst := some 20, op := _, type := _, pos := _, after := _, guard := _ }) (v := .bool true) rfl (by kernel_rfl) (by kernel_rfl) (by kernel_rfl) (fun _ _ _ h => h) (Or.inl ⟨by kernel_rfl, fun wy hy => by (go_simp; first | done | omega)⟩) (by assumption) ?_
   try simp only [Act.put, List.setIfInBounds_toArray, List.set_cons_zero, List.set_cons_succ]
   refine wpAnyH_take (i := 4) (oi := { dst := some 21, op := _, type := _, pos := _, after := _, guard := _ }) (v := .slice (some ⟨b, off, none⟩) N cap) rfl (by kernel_rfl) (by kernel_rfl) (by kernel_rfl) (fun _ _ _ h => h) (Or.inl ⟨by kernel_rfl, fun wy hy => by (go_simp; first | done | omega)⟩) (by assumption) ?_
   try simp only [Act.put, List.setIfInBounds_toArray, List.set_cons_zero, List.set_cons_succ]
   refine wpAnyH_take (i := 5) (oi := { dst := some 22, op := _, type := _, pos := _, after := _, guard := _ }) (v := .slice (some ⟨b, off, none⟩) N cap) rfl (by kernel_rfl) (by kernel_rfl) (by kernel_rfl) (fun _ _ _ h => h) (Or.inl ⟨by kernel_rfl, fun wy hy => by (go_simp; first | done | omega)⟩) (by assumption) ?_
   try simp only [Act.put, List.setIfInBounds_toArray, List.set_cons_zero, List.set_cons_succ]
   refine wpAnyH_take (i := 6) (oi := { dst := some 23, op := _, type := _, pos := _, after := _, guard := _ }) (v := .int .i64 (N : Int)) rfl (by kernel_rfl) (by kernel_rfl) (by kernel_rfl) (fun _ _ _ h => h) (Or.inl ⟨by kernel_rfl, fun wy hy => by (go_simp; first | done | omega)⟩) (by assumption) ?_
   try simp only [Act.put, List.setIfInBounds_toArray, List.set_cons_zero, List.set_cons_succ]
   refine wpAnyH_take (i := 7) (oi := { dst := some 24, op := _, type := _, pos := _, after := _, guard := _ }) (v := .int .i64 (j : Int)) rfl (by kernel_rfl) (by kernel_rfl) (by kernel_rfl) (fun _ _ _ h => h) (Or.inl ⟨by kernel_rfl, fun wy hy => by (go_simp; first | done | omega | exact IntWalk.i64_in _ ⟨by omega, by omega⟩)⟩) (by assumption) ?_
   try simp only [Act.put, List.setIfInBounds_toArray, List.set_cons_zero, List.set_cons_succ]
   refine wpAnyH_take (i := 8) (oi := { dst := some 25, op := _, type := _, pos := _, after := _, guard := _ }) (v := .pointer (some ⟨b, off + j * 7, none⟩)) rfl (by kernel_rfl) (by kernel_rfl) (by kernel_rfl) (fun _ _ _ h => h) (Or.inl ⟨by kernel_rfl, fun wy hy => by (go_simp; first | done | omega)⟩) (by assumption) ?_
   try simp only [Act.put, List.setIfInBounds_toArray, List.set_cons_zero, List.set_cons_succ]
   refine wpAnyH_take (i := 9) (oi := { dst := some 26, op := _, type := _, pos := _, after := _, guard := _ }) (v := .agg #[.slice pp1 y1 qq1, .int .i64 pe.fam, .slice pp2 y2 qq2, .int .i64 pe.ts, .int .i64 pe.seq, .int .i64 pe.kind, .slice pp3 y3 qq3]) rfl (by kernel_rfl) (by kernel_rfl) (by kernel_rfl) (fun _ _ _ h => h) (Or.inl ⟨by kernel_rfl, fun wy hy => by (have f0 := (hy.cell (p := ⟨b, off + j * 7, none⟩) (World.block_lt_of_cell? _ _ HDp.out.1)).trans HDp.out.1; have f1 := (hy.cell (p := ⟨b, off + j * 7 + 1, none⟩) (World.block_lt_of_cell? _ _ HDp.out.2.1)).trans HDp.out.2.1; have f2 := (hy.cell (p := ⟨b, off + j * 7 + 2, none⟩) (World.block_lt_of_cell? _ _ HDp.out.2.2.1)).trans HDp.out.2.2.1; have f3 := (hy.cell (p := ⟨b, off + j * 7 + 3, none⟩) (World.block_lt_of_cell? _ _ HDp.out.2.2.2.1)).trans HDp.out.2.2.2.1; have f4 := (hy.cell (p := ⟨b, off + j * 7 + 4, none⟩) (World.block_lt_of_cell? _ _ HDp.out.2.2.2.2.1)).trans HDp.out.2.2.2.2.1; have f5 := (hy.cell (p := ⟨b, off + j * 7 + 5, none⟩) (World.block_lt_of_cell? _ _ HDp.out.2.2.2.2.2.1)).trans HDp.out.2.2.2.2.2.1; have f6 := (hy.cell (p := ⟨b, off + j * 7 + 6, none⟩) (World.block_lt_of_cell? _ _ HDp.out.2.2.2.2.2.2)).trans HDp.out.2.2.2.2.2.2; go_simp; done)⟩) (by assumption) ?_
   try simp only [Act.put, List.setIfInBounds_toArray, List.set_cons_zero, List.set_cons_succ]
   refine wpAnyH_take (i := 10) (oi := { dst := some 27, op := _, type := _, pos := _, after := _, guard := _ }) (v := .agg #[.slice p1 z1 q1, .int .i64 e.fam, .slice p2 z2 q2, .int .i64 e.ts, .int .i64 e.seq, .int .i64 e.kind, .slice p3 z3 q3]) rfl (by kernel_rfl) (by kernel_rfl) (by kernel_rfl) (fun _ _ _ h => h) (Or.inl ⟨by kernel_rfl, fun wy hy => by (have f0 := (hy.cell (p := ⟨W.heap.size, 0, none⟩) (World.block_lt_of_cell? _ _ HDe.out.1)).trans HDe.out.1; have f1 := (hy.cell (p := ⟨W.heap.size, 1, none⟩) (World.block_lt_of_cell? _ _ HDe.out.2.1)).trans HDe.out.2.1; have f2 := (hy.cell (p := ⟨W.heap.size, 2, none⟩) (World.block_lt_of_cell? _ _ HDe.out.2.2.1)).trans HDe.out.2.2.1; have f3 := (hy.cell (p := ⟨W.heap.size, 3, none⟩) (World.block_lt_of_cell? _ _ HDe.out.2.2.2.1)).trans HDe.out.2.2.2.1; have f4 := (hy.cell (p := ⟨W.heap.size, 4, none⟩) (World.block_lt_of_cell? _ _ HDe.out.2.2.2.2.1)).trans HDe.out.2.2.2.2.1; have f5 := (hy.cell (p := ⟨W.heap.size, 5, none⟩) (World.block_lt_of_cell? _ _ HDe.out.2.2.2.2.2.1)).trans HDe.out.2.2.2.2.2.1; have f6 := (hy.cell (p := ⟨W.heap.size, 6, none⟩) (World.block_lt_of_cell? _ _ HDe.out.2.2.2.2.2.2)).trans HDe.out.2.2.2.2.2.2; go_simp; done)⟩) (by assumption) ?_
   try simp only [Act.put, List.setIfInBounds_toArray, List.set_cons_zero, List.set_cons_succ]
   refine wpAnyH_ready (rs := [11]) (by kernel_rfl) (by simp) ?_
   refine AllReadyH.cons (o := { dst := some 28, op := _, type := _, pos := _, after := _, guard := _ }) rfl (fun KK hK => ?_) AllReadyH.nil
   go_simp
   go_at_call 48
   refine (HCp.out _ BD).mono ?_
   rintro e9 X2 ⟨rfl, hb2⟩
   have bX2 : Below X1.heap.size X1 X2 := BD.trans (hb2.mono BD.size)
   clear hb2 BD HCp
   go_wp2_with fail
   refine hK.out _ _ bX2 (fun hHeld => ?_)
   clear hK
   try simp only [Act.put, List.setIfInBounds_toArray, List.set_cons_zero, List.set_cons_succ]
   refine wpAnyH_take (i := 12) (oi := { dst := some 29, op := _, type := _, pos := _, after := _, guard := _ }) (v := .bool false) rfl (by kernel_rfl) (by kernel_rfl) (by kernel_rfl) (fun _ _ _ h => h) (Or.inl ⟨by kernel_rfl, fun wy hy => by (go_simp; first | done | omega)⟩) (by assumption) ?_
   try simp only [Act.put, List.setIfInBounds_toArray, List.set_cons_zero, List.set_cons_succ]
   refine wpAnyH_take (i := 13) (oi := { dst := some 30, op := _, type := _, pos := _, after := _, guard := _ }) (v := .bool false) rfl (by kernel_rfl) (by kernel_rfl) (by kernel_rfl) (fun _ _ _ h => h) (Or.inl ⟨by kernel_rfl, fun wy hy => by (go_simp; first | done | omega)⟩) (by assumption) ?_
   try simp only [Act.put, List.setIfInBounds_toArray, List.set_cons_zero, List.set_cons_succ]
   refine wpAnyH_done (by kernel_rfl) (NoPanic.normal ?_) _
   clear hHeld
   go_simp
   go_step
   have HB2 := Lib.hid (HB1.out.trans (bX2.mono HB1.out.size))
   have hrd2 := HR.out.later HB2.out
   have hok2 := HEo.out.later HB2.out
   have HDe2 : Hid (_ ∧ _ ∧ _ ∧ _ ∧ _ ∧ _ ∧ _) := HCel.out X2 (HX1.out.trans (bX2.mono HX1.out.size))
   have HRd2 := Lib.hid (And.intro hrd2 (And.intro (HOne1.out) (And.intro hok2 trivial)))
   have hX2s : W.heap.size + 1 ≤ X2.heap.size := by have h1 := HX1.out.size; have h2 := bX2.size; have h3 := HS0.out; omega
   clear bX2 hrd2 hok2
   obtain ⟨d0, d1, d2, d3, d4, d5, d6⟩ := HDe2.out
   go_wp2_with (at_builtin; refine wpl5_append_rd rfl _ _ rfl X2.heap.size _ [] rfl (World.ownsRow_nil _ _ _ _) _ _ _ l rfl HN.out HRd2.out.1 HRd2.out.2.1 (by simp only [List.length_nil]; have := HN.out; omega) (Nat.le_refl _) ?_; intro a1 n1 c1 Y1 hn1 r1 g1; have Hn1 := Lib.hid hn1; clear hn1; refine Hid.out ?_)
   refine Lib.hid ?_
   have O1 := Lib.hid r1
   have HBx1 := Lib.hid ((Below.refl X2.heap.size X2).grown g1 (Nat.le_refl _) (fun k hk => (by cases hk)))
   have y0 := (HBx1.out.cell (p := ⟨W.heap.size, 0, none⟩) (by show W.heap.size < _; omega)).trans d0
   have y1 := (HBx1.out.cell (p := ⟨W.heap.size, 1, none⟩) (by show W.heap.size < _; omega)).trans d1
   have y2 := (HBx1.out.cell (p := ⟨W.heap.size, 2, none⟩) (by show W.heap.size < _; omega)).trans d2
   have y3 := (HBx1.out.cell (p := ⟨W.heap.size, 3, none⟩) (by show W.heap.size < _; omega)).trans d3
   have y4 := (HBx1.out.cell (p := ⟨W.heap.size, 4, none⟩) (by show W.heap.size < _; omega)).trans d4
   have y5 := (HBx1.out.cell (p := ⟨W.heap.size, 5, none⟩) (by show W.heap.size < _; omega)).trans d5
   have y6 := (HBx1.out.cell (p := ⟨W.heap.size, 6, none⟩) (by show W.heap.size < _; omega)).trans d6
   have HOne := Lib.hid (HOneF.out Y1 (HRd2.out.2.2.1.later HBx1.out))
   have hn1b : n1 ≤ 200 := by rw [Hn1.out, List.nil_append, ← HN.out]; exact hN2
   clear r1 g1 d0 d1 d2 d3 d4 d5 d6
   go_wp2_with (at_builtin; refine wpl5_append_rd rfl _ _ rfl X2.heap.size _ _ rfl (O1.out.alloc _) _ _ _ [e] rfl rfl HOne.out (fun y hy => by simp at hy; subst hy; exact one_cells HRd2.out.2.2.1) (by simp only [List.length_append, List.length_nil, List.length_cons]; have := HN.out; omega) (Nat.le_trans HBx1.out.size (by simp)) ?_; intro a2 n2 c2 Y2 hn2 r2 g2; have Hn2 := Lib.hid hn2; clear hn2; refine Hid.out ?_)
   refine Lib.hid ?_
   have HBx2 := Lib.hid ((HBx1.out.alloc HBx1.out.size (.cells #[.slice p1 z1 q1, .int .i64 e.fam, .slice p2 z2 q2, .int .i64 e.ts, .int .i64 e.seq, .int .i64 e.kind, .slice p3 z3 q3] 40)).grown g2 (Nat.le_trans HBx1.out.size (by simp)) (fun k hk => (O1.out.lt k hk).1))
   have hok9 : ∀ x ∈ l ++ [e], EntD.Ok Y2 x := fun x hx => by
    rcases List.mem_append.1 hx with hx | hx
    ·exact (HRd2.out.1.ok x hx).later HBx2.out
    ·simp at hx
     subst hx
     exact HRd2.out.2.2.1.later HBx2.out
   have HLoc : Hid (∀ ad, a2 = some ad → W.heap.size ≤ ad.block) := by
    intro ad had
    subst had
    have h9 : (Value.slice (some ad) n2 c2).ownBlock = some ad.block := by
     rcases r2.2 with ⟨k1, _⟩ | ⟨g2', cap2, cur2, k1, _⟩
     ·cases k1
     ·simp only [Value.slice.injEq, Option.some.injEq] at k1
      rw [k1.1]
      rfl
    have h8 := (r2.lt _ h9).1
    have h7 := HB2.out.size
    omega
   have hR9 : RdL5 Y2 a2 c2 (l ++ [e]) ∧ n2 = (l ++ [e]).length := by
    rw [List.nil_append] at r2
    obtain ⟨a9, cap9, e9, rd9⟩ := row_rdl5 r2 hok9
    simp only [Value.slice.injEq] at e9
    obtain ⟨rfl, h9, rfl⟩ := e9
    exact ⟨rd9, h9⟩
   have hn9 : (l ++ [e]).length = N + 1 := by rw [List.length_append, ← HN.out]; rfl
   have hs9 : addB r s (keyL e) e.val = foldB r Bs.zero (kvL (l ++ [e])) := by
    have e5 : kvL (l ++ [e]) = kvL l ++ [(keyL e, e.val)] := by simp [kvL]
    rw [e5, foldB_app, ← HFo.out.1]
    rfl
   have hup9 : Up [] (kvL (l ++ [e])) := by
    have e5 : kvL (l ++ [e]) = kvL l ++ [(keyL e, e.val)] := by simp [kvL]
    rw [e5]
    refine up_snoc _ _ _ HFo.out.2.2.1 ?_
    rw [← fold_last r, ← HFo.out.1]
    have := HLt.out
    split <;> first | exact this | (rename_i h0; rw [show s.la = [] by rw [HFo.out.1, h0]; rfl] at this; exact this)
   have hsz9 : (addB r s (keyL e) e.val).es.length + (addB r s (keyL e) e.val).ps.length + 9 ≤ 262144 := by
    have h1 := HFo.out.2.2.2
    have h2 := add_len r s (keyL e) e.val
    have h3 := keyL_len HC0.out
    have h4 := (check_facts HC0.out).2.2.2.2.2.2.2.1
    omega
   have HLy := Lib.hid (lay_wide (r := r) hR9.1 (⟨hr1, hr16, by rw [hs9], by rw [hs9], hup9, by simp [kvL], hsz9⟩ : BladW r (kvL (l ++ [e])) (addB r s (keyL e) e.val).es (addB r s (keyL e) e.val).ps) (fun x hx => by
    rcases List.mem_append.1 hx with hx | hx
    ·exact HFo.out.2.1 x hx
    ·simp at hx
     subst hx
     exact HC0.out))
   rw [hn9] at HLy
   have hn2N : n2 = N + 1 := by rw [hR9.2, hn9]
   subst hn2N
   have HB9 := Lib.hid (HB2.out.trans (HBx2.out.mono HB2.out.size))
   have HR9 := Lib.hid hR9.1
   clear hok9 hR9 hn9 hs9 hup9 hsz9 r2 g2 y0 y1 y2 y3 y4 y5 y6 HOne Hn1 O1 hn1b Hn2
   go_wp2_with fail
   refine Calls.mono HLy.out ?_
   rintro z X9 ⟨a9, m9, c9, rfl, own9, b9⟩
   have hm9 : m9 = (addB r s (keyL e) e.val).es.length + (addB r s (keyL e) e.val).ps.length + 9 := by rw [own9.1, blockL_len]
   have HB10 := Lib.hid (HB9.out.trans (b9.mono HB9.out.size))
   have HR10 := Lib.hid (HR9.out.later b9)
   have HFl : Hid (fullB r s (keyL e) e.val = decide (131072 < m9)) := by
    unfold Hid fullB
    rw [hm9]
    rfl
   clear own9 b9 HLy hm9
   by_cases hf : m9 ≤ 131072
   ·have hfi : ¬ (131072 : Int) < (m9 : Int) := by omega
    have HEnd : Hid (RaP W r (some ⟨b, off, none⟩) cap l s e (.returned (.tuple #[.slice a2 (N + 1) c2, .int .i64 0])) X9) := by
     have h0 : (addE r s e).1 = 0 := by
      rw [addE_good HC0.out (by rw [ordC_swap s.la (keyL e)]; have := HLt.out; omega) (by rw [HFl.out, decide_eq_false_iff_not]; omega)]
     exact ⟨HB10.out, a2, N + 1, c2, by rw [h0]; rfl, fun h => absurd h0 h, fun _ => ⟨by rw [HN.out], HR10.out, HLoc.out⟩⟩
    go_wp2
    go_ret2
    exact HEnd.out
   ·have hfi : (131072 : Int) < (m9 : Int) := by omega
    have HEnd : Hid (RaP W r (some ⟨b, off, none⟩) cap l s e (.returned (.tuple #[.slice (some ⟨b, off, none⟩) N cap, .int .i64 53])) X9) := by
     have h0 : (addE r s e).1 = 53 := addE_full HC0.out (by rw [ordC_swap s.la (keyL e)]; have := HLt.out; omega) (by rw [HFl.out, decide_eq_true_iff]; omega)
     exact ⟨HB10.out, (some ⟨b, off, none⟩), N, cap, by rw [h0]; rfl, fun _ => ⟨rfl, HN.out, rfl⟩, fun h => by rw [h0] at h; cases h⟩
    go_wp2
    go_ret2
    exact HEnd.out
end Go.Proofs.YtchebhafabhabaaGreatDoor

namespace Go.Proofs.YtchebhafabhabaaGreatDoor
open Go.RowKit
set_option linter.unusedVariables false

def MkL (w : World) (O : Nat → Prop) (v : Value) (m : Nat) : Prop :=
 ∃ a n c, v = .slice a n c ∧ n ≤ 140737488355328 ∧ (n = 0 ∨ ∃ b, a = some ⟨b, 0, none⟩ ∧ O b ∧ ∀ i, i < n → w.cell? ⟨b, i, none⟩ = some (.int .u8 (m : Int)))
theorem MkL.keep {w w' : World} {O O' : Nat → Prop} {v : Value} {m : Nat} (h : MkL w O v m) (k : ∀ b, O b → w'.heap[b]? = w.heap[b]?) (ho : ∀ b, O b → O' b) : MkL w' O' v m := by
 obtain ⟨a, n, c, rfl, hn, h0 | ⟨b, rfl, hb, hc⟩⟩ := h
 ·exact ⟨a, n, c, rfl, hn, .inl h0⟩
 ·refine ⟨_, n, c, rfl, hn, .inr ⟨b, rfl, ho b hb, fun i hi => ?_⟩⟩
  rw [← hc i hi]
  unfold World.cell?
  rw [k b hb]
theorem MkL.of_own {w : World} {B n c m : Nat} {a : Option Addr} {O : Nat → Prop} (h : Own w B (.slice a n c) n (List.replicate n m)) (hn : n ≤ 140737488355328) (ho : ∀ g, (Value.slice a n c).ownBlock = some g → O g) : MkL w O (.slice a n c) m := by
 refine ⟨a, n, c, rfl, hn, ?_⟩
 rcases h.2.2 with ⟨h1, h0⟩ | ⟨g, cap, cur, h1, _⟩
 ·exact .inl h0
 ·simp only [Value.slice.injEq] at h1
  obtain ⟨rfl, -, -⟩ := h1
  refine .inr ⟨g, rfl, ho g rfl, fun i hi => ?_⟩
  rw [h.2.cellAt i (by omega)]
  simp [bv, hi]
structure Fu (w : World) (g : Nat) (O : Nat → Prop) (aL : Option Addr) (nL cL : Nat) (aM : Option Addr) (cM N : Nat) (vs : List Value) (ms : List Nat) : Prop where
 box : w.heap[g]? = some (.cells #[.slice aL nL cL, .slice aM nL cM, .int .i64 (N : Int)] 38 (0, 0))
 row : w.ownsRow 0 36 1 (.slice aL nL cL) nL vs
 own : Own w 0 (.slice aM nL cM) nL ms
 len : vs.length = nL
 bys : Bys ms
 marks : ∀ (i : Nat) v m, vs[i]? = some v → ms[i]? = some m → MkL w O v m
 few : nL * 50 ≤ N ∧ N ≤ 4000000
 lo : ∀ k, O k → k < w.heap.size
 ng : ¬ O g
 nL_ : ∀ k, (Value.slice aL nL cL).ownBlock = some k → ¬ O k ∧ k ≠ g
 nM : ∀ k, (Value.slice aM nL cM).ownBlock = some k → ¬ O k ∧ k ≠ g ∧ (Value.slice aL nL cL).ownBlock ≠ some k
def FuB (w : World) (g : Nat) (FO : Nat → Prop) : Prop := ∃ O aL nL cL aM cM N vs ms, Fu w g O aL nL cL aM cM N vs ms ∧ (∀ k, FO k → k < w.heap.size) ∧ FO g ∧ (∀ k, O k → FO k) ∧ (∀ k, (Value.slice aL nL cL).ownBlock = some k → FO k) ∧ (∀ k, (Value.slice aM nL cM).ownBlock = some k → FO k)
theorem row_same {w w' : World} {B ty n k : Nat} {v : Value} {xs : List Value} (h : w.ownsRow B ty k v n xs) (hs : ∀ g, v.ownBlock = some g → w'.heap[g]? = w.heap[g]?) : w'.ownsRow B ty k v n xs := by
 refine ⟨h.1, ?_⟩
 rcases h.2 with h2 | ⟨g, cap, cur, h3, h4, h5, h6⟩
 ·exact .inl h2
 ·exact .inr ⟨g, cap, cur, h3, h4, by rw [hs g (by rw [h3]; rfl)]; exact h5, h6⟩
theorem FuB.kept {w w' : World} {g : Nat} {FO : Nat → Prop} (h : FuB w g FO) (hsz : w.heap.size ≤ w'.heap.size) (k : ∀ i, FO i → w'.heap[i]? = w.heap[i]?) : FuB w' g FO := by
 obtain ⟨O, aL, nL, cL, aM, cM, N, vs, ms, h, f1, f2, f3, f4, f5⟩ := h
 refine ⟨O, aL, nL, cL, aM, cM, N, vs, ms, ⟨by rw [k g f2]; exact h.box, row_same h.row (fun i hi => k i (f4 i hi)), ⟨h.own.1, row_same h.own.2 (fun i hi => k i (f5 i hi))⟩, h.len, h.bys, fun i v m h1 h2 => (h.marks i v m h1 h2).keep (fun b hb => k b (f3 b hb)) (fun _ x => x), h.few, fun i hi => Nat.lt_of_lt_of_le (h.lo i hi) hsz, h.ng, h.nL_, h.nM⟩, fun i hi => Nat.lt_of_lt_of_le (f1 i hi) hsz, f2, f3, f4, f5⟩
theorem FuB.later {w w' : World} {g : Nat} {FO : Nat → Prop} (h : FuB w g FO) (b : Below w.heap.size w w') : FuB w' g FO := by
 have h1 := h
 obtain ⟨O, aL, nL, cL, aM, cM, N, vs, ms, h0, f1, f2, f3, f4, f5⟩ := h1
 exact h.kept b.size (fun i hi => b.block i (f1 i hi))
theorem FuB.fb {w w' : World} {g : Nat} {FO X : Nat → Prop} (h : FuB w g FO) (b : Fb w w' X) (hx : ∀ k, X k → ¬ FO k) : FuB w' g FO := by
 have h1 := h
 obtain ⟨O, aL, nL, cL, aM, cM, N, vs, ms, h0, f1, f2, f3, f4, f5⟩ := h1
 exact h.kept b.size (fun i hi => b.block i (f1 i hi) (fun k => hx i k hi))
theorem FuB.lt {w : World} {g : Nat} {FO : Nat → Prop} (h : FuB w g FO) : ∀ k, FO k → k < w.heap.size := by
 obtain ⟨O, aL, nL, cL, aM, cM, N, vs, ms, h0, f1, f2, f3, f4, f5⟩ := h
 exact f1
theorem Fu.cells {w : World} {g : Nat} {O : Nat → Prop} {aL : Option Addr} {nL cL : Nat} {aM : Option Addr} {cM N : Nat} {vs : List Value} {ms : List Nat} (h : Fu w g O aL nL cL aM cM N vs ms) :
  w.cell? ⟨g, 0, none⟩ = some (.slice aL nL cL) ∧ w.cell? ⟨g, 1, none⟩ = some (.slice aM nL cM) ∧ w.cell? ⟨g, 2, none⟩ = some (.int .i64 (N : Int)) := by
 have := h.box
 simp [World.cell?, this]
theorem Fu.fz {w : World} {g : Nat} {O : Nat → Prop} {aL : Option Addr} {nL cL : Nat} {aM : Option Addr} {cM N : Nat} {vs : List Value} {ms : List Nat} (h : Fu w g O aL nL cL aM cM N vs ms) (j : Nat) : w.frozen? ⟨g, j, none⟩ = false := by
 have := h.box
 simp [World.frozen?, this]
theorem fu_new {w : World} {g : Nat} (h : w.heap[g]? = some (.cells #[.slice none 0 0, .slice none 0 0, .int .i64 0] 38 (0, 0))) : FuB w g (fun k => k = g) := by
 refine ⟨fun _ => False, none, 0, 0, none, 0, 0, [], [], ⟨h, World.ownsRow_nil _ _ _ _, ⟨rfl, World.ownsRow_nil _ _ _ _⟩, rfl, fun x hx => (by cases hx), fun i v m h1 => (by cases h1), ⟨by omega, by omega⟩, fun k hk => hk.elim, id, fun k hk => (by cases hk), fun k hk => (by cases hk)⟩, fun k hk => ?_, rfl, fun k hk => hk.elim, fun k hk => (by cases hk), fun k hk => (by cases hk)⟩
 subst hk
 exact (Array.getElem?_eq_some_iff.1 h).1
end Go.Proofs.YtchebhafabhabaaGreatDoor

namespace Go.Proofs.YtchebhafabhabaaGreatDoor
open Go.RowKit
set_option linter.unusedVariables false

theorem FuB.more {w : World} {g : Nat} {FO FO' : Nat → Prop} (h : FuB w g FO) (k : ∀ i, FO i → FO' i) (l : ∀ i, FO' i → i < w.heap.size) : FuB w g FO' := by
 obtain ⟨O, aL, nL, cL, aM, cM, N, vs, ms, h0, f1, f2, f3, f4, f5⟩ := h
 exact ⟨O, aL, nL, cL, aM, cM, N, vs, ms, h0, l, k _ f2, fun i hi => k i (f3 i hi), fun i hi => k i (f4 i hi), fun i hi => k i (f5 i hi)⟩
def mkF (n : Nat) : Nat := n / 4 % 200 + 20
theorem mkF_lt (n : Nat) : mkF n < 256 := by unfold mkF; omega
theorem info_partsF : (Tryz.prog.info? 36).map (fun i => (i.zero, i.size, i.bytes)) = some (some (.slice none 0 0), 1, 24) := by kernel_rfl
theorem row_formF {w : World} {B n : Nat} {e : TypeId} {v : Value} {xs : List Value} (h : w.ownsRow B e 1 v n xs) : ∃ a c, v = .slice a n c := by
 rcases h.2 with ⟨h1, h2⟩ | ⟨g, cap, cur, h1, _⟩
 ·exact ⟨none, 0, by rw [h1, h2]⟩
 ·exact ⟨_, _, h1⟩
theorem add0F (b j : Nat) : (⟨b, 0, none⟩ : Addr).add j = ⟨b, j, none⟩ := by cases j <;> simp [Addr.add]
theorem wp_append_mk {a : Act} {w : World} {K : Act → World → Prop} {Q : Exit → Act → World → Prop} {p q B n cp k blk mk : Nat} {ap : Option Addr} {xs : List Nat} {d : Option Nat} {ps : String} {af : Array Edge} (hp : a.tmps[p]?.getD undef = .slice ap n cp) (hq : a.tmps[q]?.getD undef = .slice (some ⟨blk, 0, none⟩) k k) (ho : Own w B (.slice ap n cp) n xs) (hnew : ∀ j, j < k → w.cell? ⟨blk, j, none⟩ = some (.int .u8 (mk : Int))) (hk0 : 0 < k) (hl : n + k ≤ 140737488355328) (hB : B ≤ w.heap.size)
  (h : ∀ a' c' w', Own w' B (.slice a' (n + k) c') (n + k) (xs ++ List.replicate k mk) → w.grownBy w' (Value.slice ap n cp).ownBlock → Own w' B (.slice ap n cp) n xs → ((Value.slice a' (n + k) c').ownBlock = (Value.slice ap n cp).ownBlock ∨ ∀ g, (Value.slice a' (n + k) c').ownBlock = some g → w.heap.size ≤ g) → Keeps mk w w' → K (a.put d (.slice a' (n + k) c')) w') :
  Oper.wp Tryz.prog { dst := d, op := Op.call { callee := Callee.builtin Builtin.append, args := #[Operand.tmp p, Operand.tmp q], argTypes := #[36, 36] }, type := 36, pos := ps, after := af, guard := none } a w K Q := by
 have hnews : ∀ j u, (bv (List.replicate k mk))[j]? = some u → w.cell? ((⟨blk, 0, none⟩ : Addr).add j) = some u := by
  intro j u hj
  obtain ⟨hjl, rfl⟩ := bv_get _ j u hj
  simp at hjl
  rw [add0F, hnew j hjl]
  simp [hjl]
 obtain ⟨v', w', hr, h1, h2, h3, h4⟩ := append_keep (bs := List.replicate k mk) (c := k) 36 ho ⟨blk, 0, none⟩ (by simp) hnews hk0 hl hB
 have hk := append_marks 36 ho ⟨blk, 0, none⟩ hnews hk0 hl hr
 obtain ⟨a', c', rfl⟩ := own_form h1.2
 have e1 : a.eval (Operand.tmp p) = .slice ap n cp := by simpa [Act.eval] using hp
 have e2 : a.eval (Operand.tmp q) = .slice (some ⟨blk, 0, none⟩) k k := by simpa [Act.eval] using hq
 unfold Oper.wp execOp
 simp only [resolve, invoke, builtin, Sem.run_bind, Sem.run_pure, Result.andThen_ok, List.map_toArray, List.map_cons, List.map_nil, e1, e2, hr]
 refine h a' c' w' h1 h2 h3 ?_ hk
 rcases h4 with h4 | h4
 ·exact .inl h4
 ·refine .inr fun g hg => ?_
  rw [h4] at hg
  simp at hg
  omega
theorem wp_append_rowF {a : Act} {w : World} {K : Act → World → Prop} {Q : Exit → Act → World → Prop} {p q B n cp k blk : Nat} {ap : Option Addr} {vs us : List Value} {d : Option Nat} {ps : String} {af : Array Edge} (hp : a.tmps[p]?.getD undef = .slice ap n cp) (hq : a.tmps[q]?.getD undef = .slice (some ⟨blk, 0, none⟩) k k) (ho : w.ownsRow B 36 1 (.slice ap n cp) n vs) (hk : us.length = k) (hnew : ∀ j u, us[j]? = some u → w.cell? ⟨blk, j, none⟩ = some u) (h1 : ∀ u ∈ us, u.oneCell' = true) (hl : n + k ≤ 5864062014805) (hB : B ≤ w.heap.size)
  (h : ∀ a' c' w', w'.ownsRow B 36 1 (.slice a' (n + k) c') (n + k) (vs ++ us) → w.grownBy w' (Value.slice ap n cp).ownBlock → ((Value.slice a' (n + k) c').ownBlock = (Value.slice ap n cp).ownBlock ∨ ∀ g, (Value.slice a' (n + k) c').ownBlock = some g → w.heap.size ≤ g) → K (a.put d (.slice a' (n + k) c')) w') :
  Oper.wp Tryz.prog { dst := d, op := Op.call { callee := Callee.builtin Builtin.append, args := #[Operand.tmp p, Operand.tmp q], argTypes := #[35, 35] }, type := 35, pos := ps, after := af, guard := none } a w K Q := by
 obtain ⟨i0, hi, hz0, hz1, hz2⟩ := info_parts info_partsF
 obtain ⟨v', w', hr, h2, h3, h4, h5⟩ := run_append_own_at (P := Tryz.prog) w B 35 35 36 i0 (.slice none 0 0) 1 24 und_parts hi hz0 hz1 hz2 rfl (by decide) _ n vs ho ⟨blk, 0, none⟩ k k us (by omega) (fun j u hj => by rw [add0F]; exact hnew j u hj) h1 (by unfold maxLen; omega) (by omega) hB
 obtain ⟨a', c', rfl⟩ := row_formF h2
 have e1 : a.eval (Operand.tmp p) = .slice ap n cp := by simpa [Act.eval] using hp
 have e2 : a.eval (Operand.tmp q) = .slice (some ⟨blk, 0, none⟩) k k := by simpa [Act.eval] using hq
 unfold Oper.wp execOp
 simp only [resolve, invoke, builtin, Sem.run_bind, Sem.run_pure, Result.andThen_ok, List.map_toArray, List.map_cons, List.map_nil, e1, e2, hr]
 refine h a' c' w' h2 h3 ?_
 rcases h5 with h5 | h5
 ·exact .inl h5
 ·refine .inr fun g hg => ?_
  rw [h5] at hg
  simp at hg
  omega
theorem row_neF {w : World} {B B' n m : Nat} {v u : Value} {vs : List Value} {xs : List Nat} (hr : w.ownsRow B 36 1 v n vs) (ho : Own w B' u m xs) {k : Nat} (hv : v.ownBlock = some k) : u.ownBlock ≠ some k := by
 intro hu
 rcases hr.2 with ⟨h1, _⟩ | ⟨g, cap, cur, h1, h2, h3, _⟩
 ·rw [h1] at hv; cases hv
 ·rcases ho.2.2 with ⟨k1, _⟩ | ⟨g2, cap2, cur2, k1, k2, k3, _⟩
  ·rw [k1] at hu; cases hu
  ·rw [h1] at hv
   rw [k1] at hu
   cases hv
   cases hu
   rw [h3] at k3
   simp at k3
theorem Fb.grow {w w' w2 : World} {O : Nat → Prop} {o : Option Nat} (f : Fb w w' O) (k : w'.grownBy w2 o) (h : ∀ i, o = some i → i < w.heap.size → O i) : Fb w w2 O := ⟨k.os.trans f.os, k.tape.trans f.tape, k.output.trans f.output, Nat.le_trans f.size k.size, fun i hi ho => (k.block i (Nat.lt_of_lt_of_le hi f.size) (fun e => ho (h i e.symm hi))).trans (f.block i hi ho)⟩
theorem own_cellF {w : World} {B k g c : Nat} {xs : List Nat} (h : Own w B (.slice (some ⟨g, 0, none⟩) k c) k xs) {i : Nat} (hi : i < k) : w.cell? ⟨g, i, none⟩ = some (.int .u8 ((xs.getD i 0 : Nat) : Int)) := by
 rw [h.2.cellAt i (by omega)]
 exact bv_at _ _ (by rw [← h.1]; exact hi)
theorem own_againF {w w' : World} {B n k g c cu : Nat} {xs ys : List Nat} (o : Own w B (.slice (some ⟨g, 0, none⟩) n c) n xs) (o' : Own w' B (.slice (some ⟨g, 0, none⟩) n c) n xs) (ou : Own w B (.slice (some ⟨g, 0, none⟩) k cu) k ys) (hc : ∀ i, i < k → w'.cell? ⟨g, i, none⟩ = w.cell? ⟨g, i, none⟩) : Own w' B (.slice (some ⟨g, 0, none⟩) k cu) k ys := by
 rcases o.2.2 with ⟨h1, _⟩ | ⟨g1, cap1, cur1, h1, h2, h3, h4, h5, h6, h7⟩
 ·cases h1
 rcases o'.2.2 with ⟨k1, _⟩ | ⟨g2, cap2, cur2, k1, k2, k3, k4, k5, k6, k7⟩
 ·cases k1
 rcases ou.2.2 with ⟨l1, _⟩ | ⟨g3, cap3, cur3, l1, l2, l3, l4, l5, l6, l7⟩
 ·cases l1
 simp only [Value.slice.injEq, Option.some.injEq, Addr.mk.injEq, and_true, true_and] at h1 k1 l1
 obtain ⟨rfl, rfl⟩ := h1
 obtain ⟨rfl, rfl⟩ := k1
 obtain ⟨rfl, rfl⟩ := l1
 rw [h3] at l3
 simp only [Option.some.injEq, Obj.cells.injEq, and_true] at l3
 subst l3
 have hsz : cur2.size = cur1.size := by rw [k6, h6]
 refine ⟨ou.1, ou.2.1, .inr ⟨g, cu, cur2, rfl, l2, k3, l4, l5, by rw [hsz, l6], ?_⟩⟩
 rw [← l7]
 apply List.ext_getElem?
 intro i
 by_cases hi : i < k * 1
 ·rw [List.getElem?_take_of_lt hi, List.getElem?_take_of_lt hi]
  have := hc i (by omega)
  simp only [World.cell?, k3, h3] at this
  simpa using this
 ·rw [List.getElem?_take_eq_none (by omega), List.getElem?_take_eq_none (by omega)]
theorem own_nonilF {w : World} {B k c : Nat} {a : Option Addr} {xs : List Nat} (o : Own w B (.slice a k c) k xs) : (a = none ∧ k = 0 ∧ c = 0) ∨ ∃ g, a = some ⟨g, 0, none⟩ := by
 rcases o.2.2 with ⟨h1, h2⟩ | ⟨g, cap, cur, h1, _⟩
 ·simp only [Value.slice.injEq] at h1
  exact .inl ⟨h1.1, h2, h1.2.2⟩
 ·simp only [Value.slice.injEq] at h1
  exact .inr ⟨g, h1.1⟩
theorem own_keepF {w w' : World} {B N mk k cv cu : Nat} {av au : Option Addr} {xs : List Nat} (ov : Own w B (.slice av N cv) N xs) (ov' : Own w' B (.slice av N cv) N xs) (gr : w.grownBy w' (Value.slice av N cv).ownBlock) (kp : Keeps mk w w') (ou : Own w B (.slice au k cu) k (List.replicate k mk)) : Own w' B (.slice au k cu) k (List.replicate k mk) := by
 by_cases hb : (Value.slice au k cu).ownBlock = (Value.slice av N cv).ownBlock
 ·rcases own_nonilF ou with ⟨rfl, rfl, rfl⟩ | ⟨g, rfl⟩
  ·exact ⟨ou.1, ou.2.1, .inl ⟨rfl, rfl⟩⟩
  ·rcases own_nonilF ov with ⟨rfl, _, _⟩ | ⟨g2, rfl⟩
   ·cases hb
   ·simp only [Value.ownBlock, Option.some.injEq] at hb
    subst hb
    refine own_againF ov ov' ou (fun i hi => ?_)
    have hc := own_cellF ou hi
    have e : (List.replicate k mk).getD i 0 = mk := by simp [List.getD_eq_getElem?_getD, hi]
    rw [e] at hc
    rw [hc]
    exact kp _ hc
 ·exact ⟨ou.1, row_same ou.2 (fun x hx => gr.block x (ou.2.lt x hx).2 (fun e => hb (by rw [hx, e])))⟩
section
variable {P : Program} {ops : Array Oper} {Q : Exit → Act → World → Prop} {md : Region.Mode} {S : World → Prop} {E : Nat → Bool}
theorem AnyE.twoF {i j : Nat} {oi oj : Oper} {fuel : Nat} {listed : Array Bool} {a : Act} {w : World} (hi : ops[i]? = some oi) (hj : ops[j]? = some oj) (hr : Region.ready md ops listed = [i, j]) (hwi : Region.wanted oi (yielded ops a.tmps) = true) (hwj : Region.wanted oj (yielded ops a.tmps) = true)
  (h1 : ∀ K : Act → World → Prop, Hid (∀ a' w', ((E i = true → S w') ∧ AnyE P md ops Q S E fuel (listed.setIfInBounds i true) a' w') → K a' w') → Oper.wp P oi a w K Q)
  (h2 : ∀ K : Act → World → Prop, Hid (∀ a' w', ((E j = true → S w') ∧ AnyE P md ops Q S E fuel (listed.setIfInBounds j true) a' w') → K a' w') → Oper.wp P oj a w K Q) : AnyE P md ops Q S E (fuel + 1) listed a w :=
 ⟨fun k => (by rw [hr] at k; cases k), fun m hm => by
  rw [hr] at hm
  rcases List.mem_cons.1 hm with rfl | hm
  ·exact wpOp_step hi (fun K' hK => by rw [if_pos hwi]; exact h1 K' hK)
  ·obtain rfl : m = j := by simpa using hm
   exact wpOp_step hj (fun K' hK => by rw [if_pos hwj]; exact h2 K' hK)⟩
end
theorem box_cellF {W : World} {g : Nat} {l m : Value} {z : Int} (h : W.heap[g]? = some (.cells #[l, m, .int .i64 z] 38 (0, 0))) : W.cell? ⟨g, 0, none⟩ = some l := by simp [World.cell?, h]
theorem box_cellF1 {W : World} {g : Nat} {l m : Value} {z : Int} (h : W.heap[g]? = some (.cells #[l, m, .int .i64 z] 38 (0, 0))) : W.cell? ⟨g, 1, none⟩ = some m := by simp [World.cell?, h]
theorem box_fzF {W : World} {g : Nat} {l m : Value} {z : Int} (h : W.heap[g]? = some (.cells #[l, m, .int .i64 z] 38 (0, 0))) (j : Nat) : W.frozen? ⟨g, j, none⟩ = false := by simp [World.frozen?, h]
theorem box_setF0 {W : World} {g : Nat} {l m : Value} {z : Int} (h : W.heap[g]? = some (.cells #[l, m, .int .i64 z] 38 (0, 0))) (x : Value) : (W.setCell ⟨g, 0, none⟩ x).heap[g]? = some (.cells #[x, m, .int .i64 z] 38 (0, 0)) := by simp [World.setCell, Array.getElem?_modify, h]
theorem box_setF1 {W : World} {g : Nat} {l m : Value} {z : Int} (h : W.heap[g]? = some (.cells #[l, m, .int .i64 z] 38 (0, 0))) (x : Value) : (W.setCell ⟨g, 1, none⟩ x).heap[g]? = some (.cells #[l, x, .int .i64 z] 38 (0, 0)) := by simp [World.setCell, Array.getElem?_modify, h]
theorem one_mkF {W : World} {k mk j : Nat} (h : W.heap[k]? = some (.cells #[.int .u8 (mk : Int)] 5 (0, 0))) (hj : j < 1) : W.cell? ⟨k, j, none⟩ = some (.int .u8 (mk : Int)) := by
 obtain rfl : j = 0 := by omega
 simp [World.cell?, h]
def TwoF (W : World) (k mk : Nat) : Prop := W.cell? ⟨k, 0, none⟩ = some (.int .u8 (mk : Int)) ∧ W.cell? ⟨k, 1, none⟩ = some (.int .u8 (mk : Int))
theorem two_ofF {W : World} {k mk : Nat} (h : W.heap[k]? = some (.cells #[.int .u8 (mk : Int), .int .u8 (mk : Int)] 5 (0, 0))) : TwoF W k mk := by
 constructor <;> simp [World.cell?, h]
theorem two_mkF {W : World} {k mk j : Nat} (h : TwoF W k mk) (hj : j < 2) : W.cell? ⟨k, j, none⟩ = some (.int .u8 (mk : Int)) := by
 match j, hj with
 | 0, _ => exact h.1
 | 1, _ => exact h.2
theorem kp_two {W W' : World} {k mk : Nat} (kp : Keeps mk W W') (h : TwoF W k mk) : TwoF W' k mk := ⟨kp _ h.1, kp _ h.2⟩
theorem keep2F {W W' : World} {k mk : Nat} (b : Below W.heap.size W W') (h : TwoF W k mk) : TwoF W' k mk := kp_two (Keeps.below b) h
theorem keepF {W W' : World} {k : Nat} {o : Obj} (b : Below W.heap.size W W') (h : W.heap[k]? = some o) : W'.heap[k]? = some o := (b.block k (Array.getElem?_eq_some_iff.1 h).1).trans h
theorem four_cellF {W : World} {k j : Nat} {x1 x2 x3 x4 u : Value} (h : W.heap[k]? = some (.cells #[x1, x2, x3, x4] 36 (0, 0))) (hj : [x1, x2, x3, x4][j]? = some u) : W.cell? ⟨k, j, none⟩ = some u := by
 simp only [World.cell?, h]
 simpa using hj
theorem Fb.set1F {w : World} {O : Nat → Prop} {g : Nat} (h : O g) (j : Nat) (x : Value) : Fb w (w.setCell ⟨g, j, none⟩ x) O :=
 have b := (Below.refl g w).setCell (p := ⟨g, j, none⟩) (Nat.le_refl _) x
 ⟨b.os, b.tape, b.output, b.size, fun k _ ho => Below.heap_setCell _ _ _ _ (by rintro rfl; exact ho h)⟩
theorem Own.kept_rowF {w w' : World} {B B' n m : Nat} {v u : Value} {vs : List Value} {xs : List Nat} (ho : Own w B u m xs) (hr : w.ownsRow B' 36 1 v n vs) (hg : w.grownBy w' v.ownBlock) : Own w' B u m xs := ⟨ho.1, row_same ho.2 (fun k hk => hg.block k (ho.2.lt k hk).2 (fun e => row_neF hr ho e.symm hk))⟩
theorem Own.setF {w : World} {B m g j : Nat} {u x : Value} {xs : List Nat} (ho : Own w B u m xs) (hg : ∀ k, u.ownBlock = some k → k ≠ g) : Own (w.setCell ⟨g, j, none⟩ x) B u m xs := ⟨ho.1, row_same ho.2 (fun k hk => Below.heap_setCell _ _ _ _ (hg k hk))⟩
theorem own_boxF {w : World} {B m g : Nat} {u l mm : Value} {z : Int} {xs : List Nat} (ho : Own w B u m xs) (h : w.heap[g]? = some (.cells #[l, mm, .int .i64 z] 38 (0, 0))) : ∀ k, u.ownBlock = some k → k ≠ g := by
 rintro k hk rfl
 rcases ho.2.2 with ⟨k1, _⟩ | ⟨g2, cap2, cur2, k1, k2, k3, _⟩
 ·rw [k1] at hk; cases hk
 ·rw [k1] at hk
  cases hk
  rw [h] at k3
  simp at k3
theorem row_boxF {w : World} {B m g : Nat} {u l mm : Value} {z : Int} {vs : List Value} (ho : w.ownsRow B 36 1 u m vs) (h : w.heap[g]? = some (.cells #[l, mm, .int .i64 z] 38 (0, 0))) : ∀ k, u.ownBlock = some k → k ≠ g := by
 rintro k hk rfl
 rcases ho.2 with ⟨k1, _⟩ | ⟨g2, cap2, cur2, k1, k2, k3, _⟩
 ·rw [k1] at hk; cases hk
 ·rw [k1] at hk
  cases hk
  rw [h] at k3
  simp at k3
end Go.Proofs.YtchebhafabhabaaGreatDoor
