import Derived.Test.YtchebhafabhabaaGreatDoorK09
import Derived.WalkMore
namespace Go.Proofs.YtchebhafabhabaaGreatDoor
open Go.RowKit Go.Shelf
set_option linter.unusedVariables false

theorem getD_mid (A B C : List Nat) (k : Nat) (hk : k < B.length) : (A ++ (B ++ C)).getD (A.length + k) 0 = B.getD k 0 := by
 rw [List.getD_eq_getElem?_getD, List.getD_eq_getElem?_getD, List.getElem?_append_right (by omega), Nat.add_sub_cancel_left, List.getElem?_append_left hk]
theorem blockL_len (E P : List Nat) (n r : Nat) : (blockL E P n r).length = E.length + P.length + 9 := by
 simp [blockL, bodyL, be4, le4]; omega
theorem block_cnt (E P : List Nat) (n r : Nat) (hn : n < 4294967296) : cntOf (blockL E P n r) = n ∧ rstOf (blockL E P n r) = r := by
 have e : blockL E P n r = (E ++ P) ++ (be4 n ++ ([r] ++ le4 (sumL (bodyL E P n r)))) := by simp [blockL, bodyL]
 have e2 : blockL E P n r = (E ++ P ++ be4 n) ++ ([r] ++ le4 (sumL (bodyL E P n r))) := by simp [blockL, bodyL]
 have f : (blockL E P n r).length - 9 = (E ++ P).length := by rw [blockL_len]; simp
 have g : ∀ k, k < 4 → (blockL E P n r).getD ((blockL E P n r).length - 9 + k) 0 = (be4 n).getD k 0 := fun k hk => by
  rw [f, e]
  exact getD_mid _ _ _ k (by simpa [be4] using hk)
 refine ⟨?_, ?_⟩
 ·unfold cntOf
  have g0 := g 0 (by omega)
  rw [Nat.add_zero] at g0
  rw [g0, g 1 (by omega), g 2 (by omega), g 3 (by omega)]
  simp only [be4, List.getD_cons_zero, List.getD_cons_succ]
  unfold rdle
  omega
 ·unfold rstOf
  have h4 : (blockL E P n r).length - 9 + 4 = (E ++ P ++ be4 n).length + 0 := by rw [f]; simp [be4]; omega
  rw [h4, e2]
  exact getD_mid _ _ _ 0 (by simp)
theorem block_sum (E P : List Nat) (n r : Nat) : (blockL E P n r).take ((blockL E P n r).length - 4) = bodyL E P n r ∧ sum4 (blockL E P n r) = sumL (bodyL E P n r) := by
 have f : (blockL E P n r).length - 4 = (bodyL E P n r).length := by simp [blockL, le4]
 have g : ∀ k, k < 4 → (blockL E P n r).getD ((blockL E P n r).length - 4 + k) 0 = (le4 (sumL (bodyL E P n r))).getD k 0 := fun k hk => by
  rw [f]
  have := getD_mid (bodyL E P n r) (le4 (sumL (bodyL E P n r))) [] k (by simpa [le4] using hk)
  rw [List.append_nil] at this
  exact this
 refine ⟨?_, ?_⟩
 ·rw [f]; unfold blockL; rw [List.take_left]
 ·unfold sum4
  have g0 := g 0 (by omega)
  rw [Nat.add_zero] at g0
  rw [g0, g 1 (by omega), g 2 (by omega), g 3 (by omega)]
  have := le4_sum (sumL (bodyL E P n r)) (sumL_lt _)
  simpa only [le4, List.getD_cons_zero, List.getD_cons_succ] using this
structure Blad (r : Nat) (l : List (List Nat × List Nat)) (E P : List Nat) : Prop where
 r1 : 1 ≤ r
 r16 : r ≤ 16
 es : E = (foldB r Bs.zero l).es
 ps : P = (foldB r Bs.zero l).ps
 ok : ∀ kv ∈ l, okIt kv.1 kv.2
 up : Up [] l
 some_ : l ≠ []
 size : E.length + P.length + 9 ≤ 131072
theorem foldB_few (r : Nat) : ∀ (l : List (List Nat × List Nat)) (s : Bs), s.n ≤ s.es.length → (foldB r s l).n ≤ (foldB r s l).es.length
 | [], s, h => h
 | kv :: t, s, h => by
  simp only [foldB]
  refine foldB_few r t _ ?_
  simp only [addB, esOf, List.length_append, recL]
  have := (uintL_len (shOf r s kv.1)).1
  omega
theorem Blad.few {r : Nat} {l : List (List Nat × List Nat)} {E P : List Nat} (h : Blad r l E P) : l.length ≤ E.length := by
 have := foldB_few r l Bs.zero (Nat.le_refl _)
 rw [foldB_n, ← h.es] at this
 simpa [Bs.zero] using this
theorem zero_ps {r : Nat} (hr : 1 ≤ r) : Bs.zero.ps.length = (Bs.zero.n + r - 1) / r * 4 := by
 have := (ceil_now (n := 0) hr).1 (by simp)
 simp only [Bs.zero]
 rw [this]
 simp
theorem Blad.psl {r : Nat} {l : List (List Nat × List Nat)} {E P : List Nat} (h : Blad r l E P) : P.length = (l.length + r - 1) / r * 4 := by
 have := ps_fold h.r1 l Bs.zero (zero_ps h.r1)
 rw [foldB_n, ← h.ps] at this
 simpa [Bs.zero] using this
theorem Blad.opens {r : Nat} {l : List (List Nat × List Nat)} {E P : List Nat} (h : Blad r l E P) : opE (blockL E P l.length r) = 0 ∧ cntOf (blockL E P l.length r) = l.length ∧ rstOf (blockL E P l.length r) = r ∧ entsOf (blockL E P l.length r) = E ∧ placesOf5 (blockL E P l.length r) = P := by
 have hs := h.size
 have hf := h.few
 have hp := h.psl
 have hl := blockL_len E P l.length r
 obtain ⟨c1, c2⟩ := block_cnt E P l.length r (by omega)
 obtain ⟨s1, s2⟩ := block_sum E P l.length r
 have hn : nrsOf (blockL E P l.length r) = (l.length + r - 1) / r := by unfold nrsOf; rw [c1, c2]
 have hpl : plsOf (blockL E P l.length r) = E.length := by unfold plsOf; rw [hn, hl]; omega
 have e : blockL E P l.length r = E ++ (P ++ (be4 l.length ++ ([r] ++ le4 (sumL (bodyL E P l.length r))))) := by simp [blockL, bodyL]
 have e3 : blockL E P l.length r = (E ++ P) ++ (be4 l.length ++ ([r] ++ le4 (sumL (bodyL E P l.length r)))) := by simp [blockL, bodyL]
 have hE : entsOf (blockL E P l.length r) = E := by unfold entsOf; rw [hpl, e, List.take_left]
 have hP : placesOf5 (blockL E P l.length r) = P := by
  unfold placesOf5
  rw [hpl, hl, e3, show E.length + P.length + 9 - 9 = (E ++ P).length by simp, List.take_left, List.drop_left]
 refine ⟨?_, c1, c2, hE, hP⟩
 have hl0 : l.length ≠ 0 := fun k => h.some_ (List.eq_nil_of_length_eq_zero k)
 unfold opE
 rw [if_neg (by omega), if_neg (by omega), if_neg (by rw [s1, s2]; exact fun k => k rfl), if_pos]
 refine ⟨⟨by rw [c1]; exact hl0, by rw [c2]; exact ⟨h.r1, h.r16⟩, by rw [hn, hl]; omega⟩, ?_⟩
 rw [c1, c2, hE, hP, h.es, h.ps]
 exact sound_lay h.r1 l h.ok h.up (by rw [← h.es]; omega)
theorem laid_of {r : Nat} {l : List EntD} (h1 : 1 ≤ r) (h16 : r ≤ 16) (h : (bldS r Bs.zero l).1 = 0) (hl : l ≠ []) : Blad r (kvL l) (bldS r Bs.zero l).2.es (bldS r Bs.zero l).2.ps := by
 obtain ⟨f1, f2, f3, f4⟩ := bldS_fold r l Bs.zero h
 rw [f1]
 refine ⟨h1, h16, rfl, rfl, ?_, f3, ?_, ?_⟩
 ·intro kv hkv
  obtain ⟨e, he, rfl⟩ := List.mem_map.1 hkv
  exact ok_of_check (f2 e he)
 ·intro k
  exact hl (List.map_eq_nil_iff.1 k)
 ·rcases f4 with rfl | f4
  ·exact absurd rfl hl
  ·exact f4
theorem kvL_len (l : List EntD) : (kvL l).length = l.length := by simp [kvL]
end Go.Proofs.YtchebhafabhabaaGreatDoor

namespace Go.Proofs.YtchebhafabhabaaGreatDoor
open Go.RowKit Go.Shelf
set_option linter.unusedVariables false

structure AtI (gi ge i B0 : Nat) (st : Option (List Nat × List Nat) × EntD) (w : World) : Prop where
 i_ : Cell1B w gi (.int .i64 (i : Int)) 3
 e : EBox w ge st.2
 o1 : Own w B0 st.2.vr st.2.row.length st.2.row
 o2 : Own w B0 st.2.vq st.2.qual.length st.2.qual
 o3 : Own w B0 st.2.vv st.2.val.length st.2.val
 by_ : Bys st.2.row ∧ Bys st.2.qual ∧ Bys st.2.val
 len : st.2.row.length ≤ 281474976710656 ∧ st.2.qual.length ≤ 281474976710656 ∧ st.2.val.length ≤ 281474976710656
 fact : ∀ kv, st.1 = some kv → (IsKey kv.1 → keyL st.2 = kv.1 ∧ st.2.val = kv.2) ∧ (checkS st.2 = 0 ↔ okIt kv.1 kv.2)
 lo : gi < B0 ∧ ge < B0 ∧ gi ≠ ge
 B : B0 ≤ w.heap.size
def AtO (ge : Nat) (st : Option (List Nat × List Nat) × EntD) (k : Nat) : Prop := k = ge ∨ st.2.vr.ownBlock = some k ∨ st.2.vq.ownBlock = some k ∨ st.2.vv.ownBlock = some k
def AtA (i : Nat) (st : Option (List Nat × List Nat)) (it : It) : Bool × Option (List Nat × List Nat) := if it.number < i then (true, st) else (false, some (it.key, it.val))
theorem Fb.of_apart {w w' : World} {g : Nat} {O : Nat → Prop} (h : Apart g w w') (hg : O g) : Fb w w' O := ⟨h.os, h.tape, h.output, h.size, fun k hk ho => h.block k hk (fun z => ho (by rw [z]; exact hg))⟩
end Go.Proofs.YtchebhafabhabaaGreatDoor

namespace Go.Proofs.YtchebhafabhabaaGreatDoor
open Go.RowKit Go.Shelf
set_option linter.unusedVariables false

theorem ask_at (i p : Nat) (r : Nat) : ∀ (l : List (List Nat × List Nat)) (s : Bs) (kv : List Nat × List Nat), s.n ≤ i → l[i - s.n]? = some kv → (askB (AtA i) p (itemsB r s l) none).2.2 = some kv
 | [], s, kv, h, hk => by simp at hk
 | x :: t, s, kv, h, hk => by
  simp only [itemsB, askB, AtA]
  by_cases hlt : s.n < i
  ·simp only [hlt, if_true]
   refine ask_at i p r t (addB r s x.1 x.2) kv (by simp only [addB]; omega) ?_
   rw [show i - s.n = (i - (addB r s x.1 x.2).n) + 1 by simp only [addB]; omega] at hk
   simpa using hk
  ·simp only [hlt, if_false]
   have : i - s.n = 0 := by omega
   rw [this] at hk
   simp at hk
   rw [← hk]
   rfl
theorem walk_from {S : Type} (A : S → It → Bool × S) {r : Nat} {l : List (List Nat × List Nat)} {E P : List Nat} (h : Blad r l E P) (q : Nat) (hq : q * r < l.length) (st : S) :
  wordAt P q ≤ E.length ∧ walkS E A (l.length - q * r) (q * r) (wordAt P q) [] st = askB A E.length (itemsB r (foldB r Bs.zero (l.take (q * r))) (l.drop (q * r))) st := by
 have hr := h.r1
 obtain ⟨s, hs⟩ : ∃ s, foldB r Bs.zero (l.take (q * r)) = s := ⟨_, rfl⟩
 have hsn : s.n = q * r := by rw [← hs, foldB_n]; simp [Bs.zero]; omega
 have hE : E = (foldB r s (l.drop (q * r))).es := by rw [h.es, ← hs, ← foldB_app, List.take_append_drop]
 have hP : P = (foldB r s (l.drop (q * r))).ps := by rw [h.ps, ← hs, ← foldB_app, List.take_append_drop]
 have hps : s.ps.length = (s.n + r - 1) / r * 4 := by rw [← hs]; exact ps_fold hr _ _ (zero_ps hr)
 have h0 : s.n % r = 0 := by rw [hsn]; exact Nat.mul_mod_left _ _
 have hla : s.la.length ≤ s.es.length := by
  rw [← hs]
  have : ∀ (l : List (List Nat × List Nat)) (s : Bs), s.la.length ≤ s.es.length → (foldB r s l).la.length ≤ (foldB r s l).es.length := by
   intro l
   induction l with
   | nil => intro s h; exact h
   | cons kv t ih => intro s h; simp only [foldB]; exact ih _ (com_la r s kv.1 kv.2 h).2.2
  exact this _ _ (Nat.le_refl _)
 obtain ⟨m, hm⟩ := foldB_es r (l.drop (q * r)) s
 have hel : s.es.length ≤ E.length := by rw [hE, hm]; simp
 have hsz := h.size
 obtain ⟨x, t, hxt⟩ : ∃ x t, l.drop (q * r) = x :: t := by
  cases hd : l.drop (q * r) with
  | nil => have := List.drop_eq_nil_iff.1 hd; omega
  | cons x t => exact ⟨x, t, rfl⟩
 have hw : wordAt P q = s.es.length := by
  rw [hP, hxt]
  have := word_lay hr x t s hps h0 (by omega)
  rw [hsn, Nat.mul_div_cancel _ (by omega)] at this
  exact this
 refine ⟨by omega, ?_⟩
 rw [hw, hs]
 have := walk_lay A r (l.drop (q * r)) s [] st E hE (.inl h0) hla (by omega)
 rw [List.length_drop, hsn] at this
 exact this
def AtP (w : World) (l : List (List Nat × List Nat)) (i : Int) (x : Ending) (w' : World) : Prop :=
 Below w.heap.size w w' ∧ ((¬ (0 ≤ i ∧ i < l.length) ∧ x = .returned (.tuple #[.agg #[.slice none 0 0, .int .i64 0, .slice none 0 0, .int .i64 0, .int .i64 0, .int .i64 0, .slice none 0 0], .int .i64 1])) ∨
  (0 ≤ i ∧ ∃ kv e, l[i.toNat]? = some kv ∧ x = .returned (.tuple #[.agg (EntD.cells e), .int .i64 0]) ∧ EntD.Ok w' e ∧ checkS e = 0 ∧ keyL e = kv.1 ∧ e.val = kv.2 ∧ Own w' w.heap.size e.vr e.row.length e.row ∧ Own w' w.heap.size e.vq e.qual.length e.qual ∧ Own w' w.heap.size e.vv e.val.length e.val))
theorem two_at (W : World) (i : Int) : ∃ X, X = (W.alloc (.cells #[.int .i64 i] 3)).alloc (.cells #[.slice none 0 0, .int .i64 0, .slice none 0 0, .int .i64 0, .int .i64 0, .int .i64 0, .slice none 0 0] 40) ∧ Below W.heap.size W X ∧ X.heap.size = W.heap.size + 2 ∧ Cell1B X W.heap.size (.int .i64 i) 3 ∧ EBox X (W.heap.size + 1) ⟨.slice none 0 0, 0, .slice none 0 0, 0, 0, 0, .slice none 0 0, [], [], []⟩ := by
 have A1 := (Below.refl W.heap.size W).alloc (Nat.le_refl _) (.cells #[.int .i64 i] 3)
 refine ⟨_, rfl, A1.alloc A1.size _, by simp, ?_, ?_⟩
 ·exact Cell1B.fb (O := fun _ => False) (heap_alloc_new W _) (Fb.of_below ((Below.refl _ _).alloc (Nat.le_refl _) _)) id
 ·have := EBox.new (W.alloc (.cells #[.int .i64 i] 3)) ⟨.slice none 0 0, 0, .slice none 0 0, 0, 0, 0, .slice none 0 0, [], [], []⟩
  simpa [EntD.cells] using this
set_option maxRecDepth 100000 in
set_option maxHeartbeats 4000000 in
theorem at_out {W : World} {g r n b ne ce np cp B : Nat} {E P : List Nat} {l : List (List Nat × List Nat)} (hL : Blad r l E P) (hk : Lk W B g r l.length b ne ce E P np cp) (i : Int) (hi : ¬ (0 ≤ i ∧ i < l.length)) :
  Calls Tryz.prog 34 #[.pointer (some ⟨g, 0, none⟩), .int .i64 i] W fun x w' => AtP W l i x w' := by
 obtain ⟨X, hX, bX, sX, cX, eX⟩ := two_at W i
 obtain ⟨q0, q1, q2, q3⟩ := (hk.box.later bX).cells
 have d0 := cX.cell
 obtain ⟨g0, g1, g2, g3, g4, g5, g6⟩ := eX.cells7
 obtain ⟨gf0, gf1, gf2, gf3, gf4, gf5, gf6⟩ := EBox.fz7b eX
 simp only at g0 g1 g2 g3 g4 g5 g6
 have HX := Lib.hid hX
 obtain ⟨N, hN⟩ : ∃ N, N = l.length := ⟨_, rfl⟩
 rw [← hN] at q1 hi
 have HEnd : Hid (∀ Y, Below W.heap.size W Y → AtP W l i (.returned (.tuple #[.agg #[.slice none 0 0, .int .i64 0, .slice none 0 0, .int .i64 0, .int .i64 0, .int .i64 0, .slice none 0 0], .int .i64 1])) Y) := fun Y hY => ⟨hY, .inl ⟨by rw [← hN]; exact hi, rfl⟩⟩
 clear hk hX cX hL hN g0 g1 g2 g3 g4 g5 g6 gf0 gf1 gf2 gf3 gf4 gf5 gf6
 by_cases h0 : i < 0
 ·go_enter Tryz.func34, Tryz.ntmps34
  go_upto_region 1 with fail
  rw [← HX.out]
  clear HX
  go_quiet (fail)
  have bY := below_drewN (Below.refl X.heap.size X) nq
  have eY := eX.later bY
  have bWY := bX.trans (bY.mono bX.size)
  generalize X.drewN nq = Y at *
  obtain ⟨g0, g1, g2, g3, g4, g5, g6⟩ := eY.cells7
  obtain ⟨gf0, gf1, gf2, gf3, gf4, gf5, gf6⟩ := EBox.fz7b eY
  simp only at g0 g1 g2 g3 g4 g5 g6
  have bx := filled_box eY ⟨.slice none 0 0, 0, .slice none 0 0, 0, 0, 0, .slice none 0 0, [], [], []⟩
  have ap := filled_apart Y (W.heap.size + 1) ⟨.slice none 0 0, 0, .slice none 0 0, 0, 0, 0, .slice none 0 0, [], [], []⟩
  have HZ := Lib.hid (And.intro bx (bWY.trans (ap.below (by omega) bWY.size)))
  simp only [filled] at HZ
  clear bx ap eY bY bWY eX
  go_wp2
  have HH := HZ.out
  clear HZ
  generalize (((((((Y.setCell ⟨W.heap.size + 1, 0, none⟩ (.slice none 0 0)).setCell ⟨W.heap.size + 1, 1, none⟩ (.int .i64 0)).setCell ⟨W.heap.size + 1, 2, none⟩ (.slice none 0 0)).setCell ⟨W.heap.size + 1, 3, none⟩ (.int .i64 0)).setCell ⟨W.heap.size + 1, 4, none⟩ (.int .i64 0)).setCell ⟨W.heap.size + 1, 5, none⟩ (.int .i64 0)).setCell ⟨W.heap.size + 1, 6, none⟩ (.slice none 0 0)) = WZ at *
  obtain ⟨fb, bw⟩ := HH
  obtain ⟨t0, t1, t2, t3, t4, t5, t6⟩ := fb.cells7
  simp only at t0 t1 t2 t3 t4 t5 t6
  (try simp only [Exit.inBlock, Exit.then])
  refine bodyPost_ret (v := .tuple #[.agg #[.slice none 0 0, .int .i64 0, .slice none 0 0, .int .i64 0, .int .i64 0, .int .i64 0, .slice none 0 0], .int .i64 1]) ?hres rfl ?_
  case hres => simp [results, Tryz.results34, go_sem, t0, t1, t2, t3, t4, t5, t6]
  exact HEnd.out _ bw
 ·have h1 : ¬ i < (N : Int) := fun k => hi ⟨by omega, k⟩
  have h2 : (N : Int) ≤ i := by omega
  go_enter Tryz.func34, Tryz.ntmps34
  go_upto_region 1 with fail
  rw [← HX.out]
  clear HX
  go_quiet (fail)
  have bY := below_drewN (Below.refl X.heap.size X) nq
  have eY := eX.later bY
  have bWY := bX.trans (bY.mono bX.size)
  generalize X.drewN nq = Y at *
  obtain ⟨g0, g1, g2, g3, g4, g5, g6⟩ := eY.cells7
  obtain ⟨gf0, gf1, gf2, gf3, gf4, gf5, gf6⟩ := EBox.fz7b eY
  simp only at g0 g1 g2 g3 g4 g5 g6
  have bx := filled_box eY ⟨.slice none 0 0, 0, .slice none 0 0, 0, 0, 0, .slice none 0 0, [], [], []⟩
  have ap := filled_apart Y (W.heap.size + 1) ⟨.slice none 0 0, 0, .slice none 0 0, 0, 0, 0, .slice none 0 0, [], [], []⟩
  have HZ := Lib.hid (And.intro bx (bWY.trans (ap.below (by omega) bWY.size)))
  simp only [filled] at HZ
  clear bx ap eY bY bWY eX
  go_wp2
  have HH := HZ.out
  clear HZ
  generalize (((((((Y.setCell ⟨W.heap.size + 1, 0, none⟩ (.slice none 0 0)).setCell ⟨W.heap.size + 1, 1, none⟩ (.int .i64 0)).setCell ⟨W.heap.size + 1, 2, none⟩ (.slice none 0 0)).setCell ⟨W.heap.size + 1, 3, none⟩ (.int .i64 0)).setCell ⟨W.heap.size + 1, 4, none⟩ (.int .i64 0)).setCell ⟨W.heap.size + 1, 5, none⟩ (.int .i64 0)).setCell ⟨W.heap.size + 1, 6, none⟩ (.slice none 0 0)) = WZ at *
  obtain ⟨fb, bw⟩ := HH
  obtain ⟨t0, t1, t2, t3, t4, t5, t6⟩ := fb.cells7
  simp only at t0 t1 t2 t3 t4 t5 t6
  (try simp only [Exit.inBlock, Exit.then])
  refine bodyPost_ret (v := .tuple #[.agg #[.slice none 0 0, .int .i64 0, .slice none 0 0, .int .i64 0, .int .i64 0, .int .i64 0, .slice none 0 0], .int .i64 1]) ?hres rfl ?_
  case hres => simp [results, Tryz.results34, go_sem, t0, t1, t2, t3, t4, t5, t6]
  exact HEnd.out _ bw
end Go.Proofs.YtchebhafabhabaaGreatDoor

namespace Go.Proofs.YtchebhafabhabaaGreatDoor
open Go.RowKit Go.Shelf
set_option linter.unusedVariables false

theorem Cell1B.later {w w' : World} {g t : Nat} {v : Value} (h : Cell1B w g v t) (b : Below w.heap.size w w') : Cell1B w' g v t := h.fb (O := fun _ => False) (Fb.of_below b) id
end Go.Proofs.YtchebhafabhabaaGreatDoor

namespace Go.Proofs.YtchebhafabhabaaGreatDoor
open Go.RowKit
set_option linter.unusedVariables false

theorem bytesL_bys {l : List Nat} (h : Bys l) (hl : l.length < 18446744073709551616) : Bys (bytesL l) := Bys.app (uintL_bys _ hl) h
def packL (e : EntD) : List Nat := bytesL (keyL e) ++ bytesL e.val

def EntD.Same (a b : EntD) : Prop := a.fam = b.fam ∧ a.ts = b.ts ∧ a.seq = b.seq ∧ a.kind = b.kind ∧ a.row = b.row ∧ a.qual = b.qual ∧ a.val = b.val
end Go.Proofs.YtchebhafabhabaaGreatDoor

namespace Go.Proofs.YtchebhafabhabaaGreatDoor
open Go.RowKit
set_option linter.unusedVariables false

def Tri (a b c : Int) : Prop := (a ≤ 0 ∧ b ≤ 0 → c ≤ 0) ∧ (0 ≤ a ∧ 0 ≤ b → 0 ≤ c) ∧ (a ≤ 0 ∧ b ≤ 0 ∧ c = 0 → a = 0 ∧ b = 0) ∧ (0 ≤ a ∧ 0 ≤ b ∧ c = 0 → a = 0 ∧ b = 0) ∧ (a = 0 → c = b) ∧ (b = 0 → c = a)
theorem tri_cmpI (x y z : Int) : Tri (cmpI x y) (cmpI y z) (cmpI x z) := by
 unfold Tri cmpI
 repeat' split
 all_goals omega
theorem tri_lex {a b c a' b' c' : Int} (h : Tri a b c) (k : Tri a' b' c') : Tri (if a = 0 then a' else a) (if b = 0 then b' else b) (if c = 0 then c' else c) := by
 unfold Tri at *
 obtain ⟨h1, h2, h3, h4, h5, h6⟩ := h
 by_cases ha : a = 0
 ·by_cases hb : b = 0
  ·have hc : c = 0 := by rw [h5 ha]; exact hb
   rw [if_pos ha, if_pos hb, if_pos hc]; exact k
  ·have hc : c = b := h5 ha
   have hc0 : ¬ c = 0 := by omega
   rw [if_pos ha, if_neg hb, if_neg hc0]
   refine ⟨?_, ?_, ?_, ?_, ?_, ?_⟩ <;> omega
 ·by_cases hb : b = 0
  ·have hc : c = a := h6 hb
   have hc0 : ¬ c = 0 := by omega
   rw [if_neg ha, if_pos hb, if_neg hc0]
   refine ⟨?_, ?_, ?_, ?_, ?_, ?_⟩ <;> omega
  ·rw [if_neg ha, if_neg hb]
   by_cases hc : c = 0
   ·rw [if_pos hc]
    have e1 : ¬ (a ≤ 0 ∧ b ≤ 0) := fun e => ha (h3 ⟨e.1, e.2, hc⟩).1
    have e2 : ¬ (0 ≤ a ∧ 0 ≤ b) := fun e => ha (h4 ⟨e.1, e.2, hc⟩).1
    refine ⟨?_, ?_, ?_, ?_, ?_, ?_⟩ <;> omega
   ·rw [if_neg hc]; exact ⟨h1, h2, h3, h4, h5, h6⟩
theorem tri_zero : Tri 0 0 0 := by unfold Tri; omega
theorem ordC_cons (x y : Nat) (a b : List Nat) : ordC (x :: a) (y :: b) = if cmpI (x : Int) (y : Int) = 0 then ordC a b else cmpI (x : Int) (y : Int) := by
 have e : ordC (x :: a) (y :: b) = if x < y then -1 else if y < x then 1 else ordC a b := rfl
 rw [e]
 unfold cmpI
 by_cases h1 : x < y
 ·simp [h1]
 ·by_cases h2 : y < x
  ·have : ¬ (x : Int) < y := by omega
   simp [h1, h2]
  ·simp [h1, h2]
theorem tri_ordC : ∀ (x y z : List Nat), Tri (ordC x y) (ordC y z) (ordC x z)
 | [], [], [] => by simp only [ordC]; exact tri_zero
 | [], [], _ :: _ => by simp only [ordC]; unfold Tri; omega
 | [], _ :: _, [] => by simp only [ordC]; unfold Tri; omega
 | [], y :: b, z :: c => by
  have h : ordC [] (y :: b) = -1 := rfl
  have h2 : ordC [] (z :: c) = -1 := rfl
  rw [h, h2]; unfold Tri; omega
 | _ :: _, [], [] => by simp only [ordC]; unfold Tri; omega
 | x :: a, [], z :: c => by
  have h : ordC (x :: a) [] = 1 := rfl
  have h2 : ordC [] (z :: c) = -1 := rfl
  rw [h, h2]; unfold Tri; omega
 | x :: a, y :: b, [] => by
  have h : ordC (y :: b) [] = 1 := rfl
  have h2 : ordC (x :: a) [] = 1 := rfl
  rw [h, h2]; unfold Tri; omega
 | x :: a, y :: b, z :: c => by
  rw [ordC_cons, ordC_cons, ordC_cons]
  exact tri_lex (tri_cmpI _ _ _) (tri_ordC a b c)
theorem lex_small {a b : Int} (h : -1 ≤ a ∧ a ≤ 1) (k : -1 ≤ b ∧ b ≤ 1) : -1 ≤ (if a = 0 then b else a) ∧ (if a = 0 then b else a) ≤ 1 := by split <;> assumption
theorem cmpI_small (a b : Int) : -1 ≤ cmpI a b ∧ cmpI a b ≤ 1 := by
 unfold cmpI
 by_cases h : a < b
 ·rw [if_pos h]; omega
 ·rw [if_neg h]
  by_cases h2 : b < a
  ·rw [if_pos h2]; omega
  ·rw [if_neg h2]; omega
theorem ordC_small : ∀ (a b : List Nat), -1 ≤ ordC a b ∧ ordC a b ≤ 1
 | [], [] => by simp [ordC]
 | [], _ :: _ => by simp [ordC]
 | _ :: _, [] => by simp [ordC]
 | x :: a, y :: b => by rw [ordC_cons]; exact lex_small (cmpI_small _ _) (ordC_small a b)
end Go.Proofs.YtchebhafabhabaaGreatDoor

namespace Go.Proofs.YtchebhafabhabaaGreatDoor
open Go.RowKit Go.Shelf
set_option linter.unusedVariables false

structure Found (n : Nat) (p : Nat → Bool) (i : Nat) : Prop where
 le : i ≤ n
 lo : ∀ k, k < i → p k = false
 hi : ∀ k, i ≤ k → k < n → p k = true
def SeP (W : World) (n : Nat) (p : Nat → Bool) (e : Ending) (w' : World) : Prop := (∃ i : Nat, e = .returned (.int .i64 (i : Int)) ∧ Found n p i) ∧ Below W.heap.size W w'
set_option maxRecDepth 100000 in
set_option maxHeartbeats 2000000 in
theorem search_any {W : World} {fn n : Nat} {cs : Array Value} {p : Nat → Bool} (hent : ∀ args w, (callFunc fn args).run Tryz.prog w = .ok (.enter fn args) w) (hn : n < 4294967296)
  (hask : ∀ (w : World) (k : Nat), k < n → Below W.heap.size W w → Calls Tryz.prog fn (#[.int .i64 (k : Int)] ++ cs) w fun e w' => e = .returned (.bool (p k)) ∧ Below w.heap.size w w')
  (hmono : ∀ a b, a ≤ b → b < n → p a = true → p b = true) :
  Calls Tryz.prog 100 #[.int .i64 (n : Int), .func (.func fn) #[] cs] W fun e w' => SeP W n p e w' := by
 have HA := Lib.hid hask
 have HM := Lib.hid hmono
 clear hask hmono
 go_enter Tryz.func100, Tryz.ntmps100
 go_wp2
 go_loopw [5, 6, 7] (fun a b _ wr => ∃ i j : Nat, a = .int .i64 (i : Int) ∧ b = .int .i64 (j : Int) ∧ i ≤ j ∧ j ≤ n ∧ Hid ((∀ k, k < i → p k = false) ∧ (∀ k, j ≤ k → k < n → p k = true) ∧ Below W.heap.size W wr)) (fun a b _ _ => (intOf b).toNat - (intOf a).toNat)
 case atStart => exact ⟨0, n, rfl, rfl, Nat.zero_le _, Nat.le_refl _, fun k hk => by omega, fun k h1 h2 => by omega, Below.refl _ _⟩
 case round =>
  obtain ⟨i, j, rfl, rfl, hij, hjn, HI⟩ := hrel
  by_cases hlt : i < j
  ·have hlt2 : (i : Int) < (j : Int) := by omega
   obtain ⟨h, hh⟩ : ∃ h, (i + j) / 2 = h := ⟨_, rfl⟩
   have hhi : ((i : Int) + (j : Int)) / 2 = (h : Int) := by omega
   have hh1 : i ≤ h := by omega
   have hh2 : h < j := by omega
   have hA := HA.out wr h (by omega) HI.out.2.2
   have HAk := Lib.hid hA
   clear hA hh
   go_upto_region 4 with fail
   clear hhi
   go_wp2_with fail
   refine Calls.mono HAk.out ?_
   rintro z X ⟨rfl, bX⟩
   cases hp : p h with
   | false =>
    have HI2 : Hid ((∀ k, k < h + 1 → p k = false) ∧ (∀ k, j ≤ k → k < n → p k = true) ∧ Below W.heap.size W X) := by
     refine ⟨fun k hk => ?_, HI.out.2.1, HI.out.2.2.trans (bX.mono HI.out.2.2.size)⟩
     cases hq : p k with
     | false => rfl
     | true =>
      have := HM.out k h (by omega) (by omega) hq
      rw [hp] at this
      cases this
    clear HAk bX hp HI
    go_wp2
    go_roundw
    case rel => exact ⟨h + 1, j, by go_num, rfl, by omega, hjn, HI2⟩
    case measure => simp only [intOf]; omega
   | true =>
    have HI2 : Hid ((∀ k, k < i → p k = false) ∧ (∀ k, h ≤ k → k < n → p k = true) ∧ Below W.heap.size W X) := ⟨HI.out.1, fun k h1 h2 => HM.out h k h1 h2 hp, HI.out.2.2.trans (bX.mono HI.out.2.2.size)⟩
    clear HAk bX hp HI
    go_wp2
    go_roundw
    case rel => exact ⟨i, h, rfl, rfl, hh1, by omega, HI2⟩
    case measure => simp only [intOf]; omega
  ·have hlt2 : ¬ (i : Int) < (j : Int) := by omega
   have HF : Hid (SeP W n p (.returned (.int .i64 (i : Int))) wr) := ⟨⟨i, rfl, by omega, HI.out.1, fun k h1 h2 => HI.out.2.1 k (by omega) h2⟩, HI.out.2.2⟩
   go_wp2
   go_ret
   exact HF.out
theorem rec_lay {r : Nat} (kv : List Nat × List Nat) (t : List (List Nat × List Nat)) (s : Bs) (E : List Nat) (hE : E = (foldB r s (kv :: t)).es) (hla : s.la.length ≤ s.es.length) (hl : E.length < 18446744073709551616) :
  ∃ a b, recordOf E s.es.length = some (shOf r s kv.1, (a, (kv.1.drop (shOf r s kv.1)).length), (b, kv.2.length)) ∧ (E.drop a).take (kv.1.drop (shOf r s kv.1)).length = kv.1.drop (shOf r s kv.1) ∧ b + kv.2.length = (addB r s kv.1 kv.2).es.length := by
 obtain ⟨c1, c2, c3⟩ := com_la r s kv.1 kv.2 hla
 obtain ⟨m, hm⟩ := foldB_es r t (addB r s kv.1 kv.2)
 have hE2 : E = s.es ++ (recL (shOf r s kv.1) (kv.1.drop (shOf r s kv.1)) kv.2 ++ m) := by rw [hE]; simp only [foldB]; rw [hm]; simp [addB, esOf]
 obtain ⟨a, b, h1, h2, h3, h4, h5, h6⟩ := record_at s.es m (shOf r s kv.1) (kv.1.drop (shOf r s kv.1)) kv.2 (by simp; omega) (by rw [← hE2]; exact hl)
 rw [← hE2] at h1 h2
 exact ⟨a, b, h1, h2, by rw [h4]; simp [addB, esOf]⟩
theorem fold_la (r : Nat) : ∀ (l : List (List Nat × List Nat)) (s : Bs), s.la.length ≤ s.es.length → (foldB r s l).la.length ≤ (foldB r s l).es.length
 | [], s, h => h
 | kv :: t, s, h => by simp only [foldB]; exact fold_la r t _ (com_la r s kv.1 kv.2 h).2.2
theorem rec_from {r : Nat} {l : List (List Nat × List Nat)} {E P : List Nat} (h : Blad r l E P) (q : Nat) (kv : List Nat × List Nat) (hq : l[q * r]? = some kv) :
  wordAt P q = (foldB r Bs.zero (l.take (q * r))).es.length ∧ wordAt P q ≤ E.length ∧ ∃ a b, recordOf E (wordAt P q) = some (0, (a, kv.1.length), (b, kv.2.length)) ∧ (E.drop a).take kv.1.length = kv.1 := by
 have hr := h.r1
 have hlt : q * r < l.length := (List.getElem?_eq_some_iff.1 hq).1
 obtain ⟨s, hs⟩ : ∃ s, foldB r Bs.zero (l.take (q * r)) = s := ⟨_, rfl⟩
 have hsn : s.n = q * r := by rw [← hs, foldB_n]; simp [Bs.zero]; omega
 have hd : l.drop (q * r) = kv :: l.drop (q * r + 1) := by
  rw [List.drop_eq_getElem_cons hlt]
  congr 1
  rw [List.getElem?_eq_getElem hlt] at hq
  exact Option.some.inj hq
 have hE : E = (foldB r s (kv :: l.drop (q * r + 1))).es := by rw [← hd, h.es, ← hs, ← foldB_app, List.take_append_drop]
 have hP : P = (foldB r s (kv :: l.drop (q * r + 1))).ps := by rw [← hd, h.ps, ← hs, ← foldB_app, List.take_append_drop]
 have hps : s.ps.length = (s.n + r - 1) / r * 4 := by rw [← hs]; exact ps_fold hr _ _ (zero_ps hr)
 have h0 : s.n % r = 0 := by rw [hsn]; exact Nat.mul_mod_left _ _
 have hla : s.la.length ≤ s.es.length := by rw [← hs]; exact fold_la r _ _ (Nat.le_refl _)
 obtain ⟨m, hm⟩ := foldB_es r (kv :: l.drop (q * r + 1)) s
 have hel : s.es.length ≤ E.length := by rw [hE, hm]; simp
 have hsz := h.size
 have hw : wordAt P q = s.es.length := by
  rw [hP]
  have := word_lay hr kv (l.drop (q * r + 1)) s hps h0 (by omega)
  rw [hsn, Nat.mul_div_cancel _ (by omega)] at this
  exact this
 have hsh : shOf r s kv.1 = 0 := by unfold shOf; rw [if_pos h0]
 obtain ⟨a, b, h1, h2, h3⟩ := rec_lay kv _ s E hE hla (by omega)
 rw [hsh] at h1 h2
 simp only [List.drop_zero] at h1 h2
 rw [hs, hw]
 exact ⟨rfl, hel, a, b, h1, h2⟩
theorem RecB.later {w w' : World} {g : Nat} {a b c d : Value} (h : RecB w g a b c d) (hb : Below w.heap.size w w') : RecB w' g a b c d := h.fb (O := fun _ => False) (Fb.of_below hb) id
theorem RecB.rd {w : World} {gr b o n c : Nat} {bs : List Nat} (hr : RecB w gr (.int .i64 0) (.slice none 0 0) (.slice none 0 0) (.int .i64 0)) (h : Rd w (.slice (some ⟨b, o, none⟩) n c) bs) (a' b' c' d' : Value) : Rd ((((w.setCell ⟨gr, 0, none⟩ a').setCell ⟨gr, 1, none⟩ b').setCell ⟨gr, 2, none⟩ c').setCell ⟨gr, 3, none⟩ d') (.slice (some ⟨b, o, none⟩) n c) bs := by
 by_cases hb : b = gr
 ·subst hb
  cases bs with
  | nil =>
   obtain ⟨h1, a, cap, h2, h3, h4, h5, h6, h7⟩ := h
   exact ⟨h1, a, cap, h2, h3, h4, h5, h6, .inl rfl⟩
  | cons v t =>
   have hl := (rd_lens h).1
   have hc := (rd_cell h 0 (by rw [hl]; simp)).1
   unfold RecB at hr
   simp only [World.cell?, hr, Nat.add_zero] at hc
   exfalso
   match o, hc with
   | 0, hc => simp at hc
   | 1, hc => simp at hc
   | 2, hc => simp at hc
   | 3, hc => simp at hc
   | o + 4, hc => simp at hc
 ·exact h.fb (Fb.of_grown (O := fun k => k = gr) ((((setg w gr 0 a').trans (setg _ gr 1 b')).trans (setg _ gr 2 c')).trans (setg _ gr 3 d')) (fun i hi => by cases hi; rfl)) hb
def notLow (r : Nat) (l : List (List Nat × List Nat)) (key : List Nat) (q : Nat) : Bool := decide (0 ≤ ordC ((l[q * r]?).getD ([], [])).1 key)
set_option maxRecDepth 100000 in
set_option maxHeartbeats 2000000 in
theorem seek1_any {w : World} {gb gk g r b ne ce np cp : Nat} {E P key : List Nat} {l : List (List Nat × List Nat)} {ak : Option Addr} {kn kc : Nat} (hL : Blad r l E P) (hbx : LBox w g (r : Int) (l.length : Int) (.slice (some ⟨b, 0, none⟩) ne ce) (.slice (some ⟨b, ne, none⟩) np cp)) (hE : Rd w (.slice (some ⟨b, 0, none⟩) ne ce) E) (hP : Rd w (.slice (some ⟨b, ne, none⟩) np cp) P)
  (hgb : Cell1B w gb (.pointer (some ⟨g, 0, none⟩)) 58) (hgk : Cell1B w gk (.slice ak kn kc) 36) (hkey : Rd w (.slice ak kn kc) key) (q : Nat) (hq : q * r < l.length) :
  Calls Tryz.prog 101 (#[.int .i64 (q : Int)] ++ #[.pointer (some ⟨gb, 0, none⟩), .pointer (some ⟨gk, 0, none⟩)]) w fun e w' => e = .returned (.bool (notLow r l key q)) ∧ Below w.heap.size w w' := by
 have hr1 := hL.r1
 have hr16 := hL.r16
 obtain ⟨kv, hkv⟩ : ∃ kv, l[q * r]? = some kv := ⟨_, List.getElem?_eq_getElem hq⟩
 obtain ⟨w0, w1, a, b2, hrec, htk⟩ := rec_from hL q kv hkv
 have hnl : notLow r l key q = decide (0 ≤ ordC kv.1 key) := by unfold notLow; rw [hkv]; rfl
 rw [hnl]
 have hqP : q * 4 + 4 ≤ P.length := by
  rw [hL.psl]
  have h1 : q + 1 ≤ (l.length + r - 1) / r := by
   rw [Nat.le_div_iff_mul_le (by omega), Nat.add_mul]
   omega
  omega
 have hPl : P.length ≤ 131072 := by have := hL.size; omega
 have HPc := Lib.hid (fun (wx : World) (hx : Below w.heap.size w wx) => place_any (hbx.later hx) (hP.later hx) q hqP hPl)
 obtain ⟨pq, hpq⟩ : ∃ pq, wordAt P q = pq := ⟨_, rfl⟩
 rw [hpq] at HPc hrec w1
 have HRr := Lib.hid (fun (wx : World) (hx : Below w.heap.size w wx) => readRecord_any (hE.later hx) pq (by rw [(rd_lens hE).1]; exact w1))
 have HRec := Lib.hid (And.intro hrec htk)
 have HBx := Lib.hid hbx
 have HGb := Lib.hid hgb
 have HGk := Lib.hid hgk
 have HKy := Lib.hid hkey
 have hq32 : q < 4294967296 := by
  have := hL.few
  have := hL.size
  have : q * 1 ≤ q * r := Nat.mul_le_mul_left q hr1
  omega
 obtain ⟨kl, hkl⟩ : ∃ kl, kv.1.length = kl := ⟨_, rfl⟩
 obtain ⟨K, hK1⟩ : ∃ K, kv.1 = K := ⟨_, rfl⟩
 have HNl : Hid (kv.1 = K ∧ kv.1.length = kl) := ⟨hK1, hkl⟩
 rw [hK1]
 clear hL hbx hE hP hgb hgk hkey hq hkv w0 w1 hrec htk hnl hqP hPl hpq hkl hK1
 go_enter Tryz.func101, Tryz.ntmps101
 go_upto_region 1 with fail
 have BD : Below w.heap.size w w.drew := (Below.refl _ _).drew
 refine wp_region_noPanic ?_
 refine wp_region_held_drew (S := fun wx => Below w.heap.size w wx) (by kernel_rfl) BD (fun hHeld => ?_)
 refine wpAnyH_take (i := 0) (oi := { dst := some 8, op := _, type := _, pos := _, after := _, guard := _ }) (v := .pointer (some ⟨g, 0, none⟩)) rfl (by kernel_rfl) (by kernel_rfl) (by kernel_rfl) (fun _ _ _ h => h) (Or.inl ⟨by kernel_rfl, fun wy hy => by (have q0 := (HGb.out.later hy).cell; go_simp; done)⟩) (by assumption) ?_
 try simp only [Act.put, List.setIfInBounds_toArray, List.set_cons_zero, List.set_cons_succ]
 refine wpAnyH_take (i := 1) (oi := { dst := some 9, op := _, type := _, pos := _, after := _, guard := _ }) (v := .pointer (some ⟨g, 0, none⟩)) rfl (by kernel_rfl) (by kernel_rfl) (by kernel_rfl) (fun _ _ _ h => h) (Or.inl ⟨by kernel_rfl, fun wy hy => by (go_simp; first | done | omega)⟩) (by assumption) ?_
 try simp only [Act.put, List.setIfInBounds_toArray, List.set_cons_zero, List.set_cons_succ]
 refine wpAnyH_take (i := 2) (oi := { dst := some 10, op := _, type := _, pos := _, after := _, guard := _ }) (v := .pointer (some ⟨g, 2, none⟩)) rfl (by kernel_rfl) (by kernel_rfl) (by kernel_rfl) (fun _ _ _ h => h) (Or.inl ⟨by kernel_rfl, fun wy hy => by (go_simp; first | done | omega)⟩) (by assumption) ?_
 try simp only [Act.put, List.setIfInBounds_toArray, List.set_cons_zero, List.set_cons_succ]
 refine wpAnyH_take (i := 3) (oi := { dst := some 11, op := _, type := _, pos := _, after := _, guard := _ }) (v := .slice (some ⟨b, 0, none⟩) ne ce) rfl (by kernel_rfl) (by kernel_rfl) (by kernel_rfl) (fun _ _ _ h => h) (Or.inl ⟨by kernel_rfl, fun wy hy => by (obtain ⟨q0, q1, q2, q3⟩ := (HBx.out.later hy).cells; go_simp; done)⟩) (by assumption) ?_
 try simp only [Act.put, List.setIfInBounds_toArray, List.set_cons_zero, List.set_cons_succ]
 refine wpAnyH_take (i := 4) (oi := { dst := some 12, op := _, type := _, pos := _, after := _, guard := _ }) (v := .pointer (some ⟨g, 0, none⟩)) rfl (by kernel_rfl) (by kernel_rfl) (by kernel_rfl) (fun _ _ _ h => h) (Or.inl ⟨by kernel_rfl, fun wy hy => by (have q0 := (HGb.out.later hy).cell; go_simp; done)⟩) (by assumption) ?_
 try simp only [Act.put, List.setIfInBounds_toArray, List.set_cons_zero, List.set_cons_succ]
 refine wpAnyH_take (i := 5) (oi := { dst := some 13, op := _, type := _, pos := _, after := _, guard := _ }) (v := .int .i64 (q : Int)) rfl (by kernel_rfl) (by kernel_rfl) (by kernel_rfl) (fun _ _ _ h => h) (Or.inl ⟨by kernel_rfl, fun wy hy => by (go_simp; first | done | omega)⟩) (by assumption) ?_
 try simp only [Act.put, List.setIfInBounds_toArray, List.set_cons_zero, List.set_cons_succ]
 refine wpAnyH_ready (rs := [6, 11]) (by kernel_rfl) (by simp) ?_
 refine AllReadyH.cons (o := { dst := some 14, op := _, type := _, pos := _, after := _, guard := _ }) rfl (fun KK hK => ?_) (AllReadyH.cons (o := { dst := some 5, op := _, type := _, pos := _, after := _, guard := _ }) rfl (fun KK hK => ?_) AllReadyH.nil)
 ·go_simp
  go_at_call 70
  refine (HPc.out _ BD).mono ?_
  rintro e1 X1 ⟨rfl, hb1⟩
  have bX1 : Below w.heap.size w X1 := BD.trans (hb1.mono BD.size)
  go_wp2_with fail
  refine hK.out _ _ bX1 (fun hHeld => ?_)
  clear hK
  try simp only [Act.put, List.setIfInBounds_toArray, List.set_cons_zero, List.set_cons_succ]
  refine wpAnyH_ready (rs := [7, 11]) (by kernel_rfl) (by simp) ?_
  refine AllReadyH.cons (o := { dst := some 15, op := _, type := _, pos := _, after := _, guard := _ }) rfl (fun KK hK => ?_) (AllReadyH.cons (o := { dst := some 5, op := _, type := _, pos := _, after := _, guard := _ }) rfl (fun KK hK => ?_) AllReadyH.nil)
  ·go_simp
   go_at_call 71
   refine (HRr.out _ bX1).mono ?_
   rintro e1 X2 ⟨hb2, h | h⟩
   ·rw [HRec.out.1] at h
    cases h.1
   obtain ⟨sh, rr, vv, hrc, o1, d1, o2, d2, rfl, rd1, rd2⟩ := h
   have heq := HRec.out.1.symm.trans hrc
   simp only [Option.some.injEq, Prod.mk.injEq] at heq
   obtain ⟨rfl, rfl, rfl⟩ := heq
   have bX2 : Below w.heap.size w X2 := bX1.trans (hb2.mono bX1.size)
   simp only [HRec.out.2] at rd1
   obtain ⟨vl, hvl⟩ : ∃ vl, kv.2.length = vl := ⟨_, rfl⟩
   obtain ⟨en, hen⟩ : ∃ en, b2 + vl = en := ⟨_, rfl⟩
   have hkl := HNl.out.2
   have hK1 := HNl.out.1
   rw [hkl, hK1] at rd1
   simp only [hkl, hvl, hen]
   have HRd := Lib.hid rd1
   clear hrc rd1 rd2 hen hvl hkl hK1 hb2
   go_wp2_with fail
   refine hK.out _ _ bX2 (fun hHeld => ?_)
   clear hK
   try simp only [Act.put, List.setIfInBounds_toArray, List.set_cons_zero, List.set_cons_succ]
   refine wpAnyH_take (i := 8) (oi := { dst := some 7, op := _, type := _, pos := _, after := _, guard := _ }) (v := .tuple #[.agg #[.int .i64 0, .slice (some ⟨b, o1, none⟩) kl d1, .slice (some ⟨b, o2, none⟩) vl d2, .int .i64 (en : Int)], .bool true]) rfl (by kernel_rfl) (by kernel_rfl) (by kernel_rfl) (fun _ _ _ h => h) (Or.inl ⟨by kernel_rfl, fun wy hy => by (go_simp; first | done | omega)⟩) (by assumption) ?_
   try simp only [Act.put, List.setIfInBounds_toArray, List.set_cons_zero, List.set_cons_succ]
   refine wpAnyH_take (i := 9) (oi := { dst := some 16, op := _, type := _, pos := _, after := _, guard := _ }) (v := .agg #[.int .i64 0, .slice (some ⟨b, o1, none⟩) kl d1, .slice (some ⟨b, o2, none⟩) vl d2, .int .i64 (en : Int)]) rfl (by kernel_rfl) (by kernel_rfl) (by kernel_rfl) (fun _ _ _ h => h) (Or.inl ⟨by kernel_rfl, fun wy hy => by (go_simp; first | done | omega)⟩) (by assumption) ?_
   try simp only [Act.put, List.setIfInBounds_toArray, List.set_cons_zero, List.set_cons_succ]
   refine wpAnyH_take (i := 10) (oi := { dst := some 17, op := _, type := _, pos := _, after := _, guard := _ }) (v := .bool true) rfl (by kernel_rfl) (by kernel_rfl) (by kernel_rfl) (fun _ _ _ h => h) (Or.inl ⟨by kernel_rfl, fun wy hy => by (go_simp; first | done | omega)⟩) (by assumption) ?_
   try simp only [Act.put, List.setIfInBounds_toArray, List.set_cons_zero, List.set_cons_succ]
   refine wpAnyH_ready (rs := [11]) (by kernel_rfl) (by simp) ?_
   refine AllReadyH.cons (o := { dst := some 5, op := _, type := _, pos := _, after := _, guard := _ }) rfl (fun KK hK => ?_) AllReadyH.nil
   go_simp
   have bX3 : Below w.heap.size w ((X2.alloc (.cells #[.int .i64 0, .slice none 0 0, .slice none 0 0, .int .i64 0] 109))) := bX2.alloc bX2.size _
   have hRB : RecB ((X2.alloc (.cells #[.int .i64 0, .slice none 0 0, .slice none 0 0, .int .i64 0] 109))) X2.heap.size (.int .i64 0) (.slice none 0 0) (.slice none 0 0) (.int .i64 0) := heap_alloc_new X2 _
   obtain ⟨gr, hgr0⟩ : ∃ gr, X2.heap.size = gr := ⟨_, rfl⟩
   have hgr : w.heap.size ≤ gr := by rw [← hgr0]; exact bX2.size
   rw [hgr0] at hRB ⊢
   clear hgr0
   refine hK.out _ _ bX3 (fun hHeld => ?_)
   clear hK
   have HRd := Lib.hid (HRd.out.later ((Below.refl _ _).alloc (Nat.le_refl _) (.cells #[.int .i64 0, .slice none 0 0, .slice none 0 0, .int .i64 0] 109)))
   generalize ((X2.alloc (.cells #[.int .i64 0, .slice none 0 0, .slice none 0 0, .int .i64 0] 109))) = X3 at *
   try simp only [Act.put, List.setIfInBounds_toArray, List.set_cons_zero, List.set_cons_succ]
   have hf := hRB.fill (.int .i64 0) (.slice (some ⟨b, o1, none⟩) kl d1) (.slice (some ⟨b, o2, none⟩) vl d2) (.int .i64 (en : Int))
   have hbf := fill_below bX3 hgr (.int .i64 0) (.slice (some ⟨b, o1, none⟩) kl d1) (.slice (some ⟨b, o2, none⟩) vl d2) (.int .i64 (en : Int))
   have hKf := hRB.rd HRd.out (.int .i64 0) (.slice (some ⟨b, o1, none⟩) kl d1) (.slice (some ⟨b, o2, none⟩) vl d2) (.int .i64 (en : Int))
   have z0 := hRB.fz 0
   have z1 := hRB.fz 1
   have z2 := hRB.fz 2
   have z3 := hRB.fz 3
   obtain ⟨y0, y1, y2, y3⟩ := hRB.cells
   refine wpAnyH_ready (rs := [12]) (by kernel_rfl) (by simp) ?_
   refine AllReadyH.cons (o := { dst := none, op := _, type := _, pos := _, after := _, guard := _ }) rfl (fun KK hK => ?_) AllReadyH.nil
   go_simp
   refine hK.out _ _ hbf (fun hHeld => ?_)
   clear hK z0 z1 z2 z3 y0 y1 y2 y3
   generalize ((((X3.setCell ⟨gr, 0, none⟩ (.int .i64 0)).setCell ⟨gr, 1, none⟩ (.slice (some ⟨b, o1, none⟩) kl d1)).setCell ⟨gr, 2, none⟩ (.slice (some ⟨b, o2, none⟩) vl d2)).setCell ⟨gr, 3, none⟩ (.int .i64 (en : Int))) = Z at *
   try simp only [Act.put, List.setIfInBounds_toArray, List.set_cons_zero, List.set_cons_succ]
   refine wpAnyH_take (i := 13) (oi := { dst := some 6, op := _, type := _, pos := _, after := _, guard := _ }) (v := .bool true) rfl (by kernel_rfl) (by kernel_rfl) (by kernel_rfl) (fun _ _ _ h => h) (Or.inl ⟨by kernel_rfl, fun wy hy => by (go_simp; first | done | omega)⟩) (by assumption) ?_
   try simp only [Act.put, List.setIfInBounds_toArray, List.set_cons_zero, List.set_cons_succ]
   refine wpAnyH_done (by kernel_rfl) (NoPanic.normal ?_) _
   have HBZ := Lib.hid hbf
   have k0 := (HGk.out.later hbf).cell
   have HCm := Lib.hid (bytesCompare_any hKf (HKy.out.later hbf))
   obtain ⟨x0, x1, x2, x3⟩ := hf.cells
   clear hHeld hbf hf hKf hRB
   go_simp
   go_step
   go_wp2_with fail
   refine Calls.mono HCm.out ?_
   rintro z X9 ⟨rfl, rfl⟩
   obtain ⟨cv, hcv⟩ : ∃ cv, ordC K key = cv := ⟨_, rfl⟩
   rw [hcv]
   clear HCm
   go_wp2
   go_ret
   exact ⟨by rw [hcv]; rfl, HBZ.out⟩
  ·go_simp
   have bX2 : Below w.heap.size w ((X1.alloc (.cells #[.int .i64 0, .slice none 0 0, .slice none 0 0, .int .i64 0] 109))) := bX1.alloc bX1.size _
   have hRB : RecB ((X1.alloc (.cells #[.int .i64 0, .slice none 0 0, .slice none 0 0, .int .i64 0] 109))) X1.heap.size (.int .i64 0) (.slice none 0 0) (.slice none 0 0) (.int .i64 0) := heap_alloc_new X1 _
   obtain ⟨gr, hgr0⟩ : ∃ gr, X1.heap.size = gr := ⟨_, rfl⟩
   have hgr : w.heap.size ≤ gr := by rw [← hgr0]; exact bX1.size
   rw [hgr0] at hRB ⊢
   clear hgr0
   refine hK.out _ _ bX2 (fun hHeld => ?_)
   clear hK
   generalize ((X1.alloc (.cells #[.int .i64 0, .slice none 0 0, .slice none 0 0, .int .i64 0] 109))) = X2 at *
   try simp only [Act.put, List.setIfInBounds_toArray, List.set_cons_zero, List.set_cons_succ]
   refine wpAnyH_ready (rs := [7]) (by kernel_rfl) (by simp) ?_
   refine AllReadyH.cons (o := { dst := some 15, op := _, type := _, pos := _, after := _, guard := _ }) rfl (fun KK hK => ?_) AllReadyH.nil
   go_simp
   go_at_call 71
   refine (HRr.out _ bX2).mono ?_
   rintro e1 X3 ⟨hb2, h | h⟩
   ·rw [HRec.out.1] at h
    cases h.1
   obtain ⟨sh, rr, vv, hrc, o1, d1, o2, d2, rfl, rd1, rd2⟩ := h
   have heq := HRec.out.1.symm.trans hrc
   simp only [Option.some.injEq, Prod.mk.injEq] at heq
   obtain ⟨rfl, rfl, rfl⟩ := heq
   have bX3 : Below w.heap.size w X3 := bX2.trans (hb2.mono bX2.size)
   simp only [HRec.out.2] at rd1
   obtain ⟨vl, hvl⟩ : ∃ vl, kv.2.length = vl := ⟨_, rfl⟩
   obtain ⟨en, hen⟩ : ∃ en, b2 + vl = en := ⟨_, rfl⟩
   have hkl := HNl.out.2
   have hK1 := HNl.out.1
   rw [hkl, hK1] at rd1
   simp only [hkl, hvl, hen]
   have HRd := Lib.hid rd1
   have hRB := hRB.later hb2
   clear hrc rd1 rd2 hen hvl hkl hK1 hb2
   go_wp2_with fail
   refine hK.out _ _ bX3 (fun hHeld => ?_)
   clear hK
   try simp only [Act.put, List.setIfInBounds_toArray, List.set_cons_zero, List.set_cons_succ]
   refine wpAnyH_take (i := 8) (oi := { dst := some 7, op := _, type := _, pos := _, after := _, guard := _ }) (v := .tuple #[.agg #[.int .i64 0, .slice (some ⟨b, o1, none⟩) kl d1, .slice (some ⟨b, o2, none⟩) vl d2, .int .i64 (en : Int)], .bool true]) rfl (by kernel_rfl) (by kernel_rfl) (by kernel_rfl) (fun _ _ _ h => h) (Or.inl ⟨by kernel_rfl, fun wy hy => by (go_simp; first | done | omega)⟩) (by assumption) ?_
   try simp only [Act.put, List.setIfInBounds_toArray, List.set_cons_zero, List.set_cons_succ]
   refine wpAnyH_take (i := 9) (oi := { dst := some 16, op := _, type := _, pos := _, after := _, guard := _ }) (v := .agg #[.int .i64 0, .slice (some ⟨b, o1, none⟩) kl d1, .slice (some ⟨b, o2, none⟩) vl d2, .int .i64 (en : Int)]) rfl (by kernel_rfl) (by kernel_rfl) (by kernel_rfl) (fun _ _ _ h => h) (Or.inl ⟨by kernel_rfl, fun wy hy => by (go_simp; first | done | omega)⟩) (by assumption) ?_
   try simp only [Act.put, List.setIfInBounds_toArray, List.set_cons_zero, List.set_cons_succ]
   refine wpAnyH_take (i := 10) (oi := { dst := some 17, op := _, type := _, pos := _, after := _, guard := _ }) (v := .bool true) rfl (by kernel_rfl) (by kernel_rfl) (by kernel_rfl) (fun _ _ _ h => h) (Or.inl ⟨by kernel_rfl, fun wy hy => by (go_simp; first | done | omega)⟩) (by assumption) ?_
   try simp only [Act.put, List.setIfInBounds_toArray, List.set_cons_zero, List.set_cons_succ]
   have hf := hRB.fill (.int .i64 0) (.slice (some ⟨b, o1, none⟩) kl d1) (.slice (some ⟨b, o2, none⟩) vl d2) (.int .i64 (en : Int))
   have hbf := fill_below bX3 hgr (.int .i64 0) (.slice (some ⟨b, o1, none⟩) kl d1) (.slice (some ⟨b, o2, none⟩) vl d2) (.int .i64 (en : Int))
   have hKf := hRB.rd HRd.out (.int .i64 0) (.slice (some ⟨b, o1, none⟩) kl d1) (.slice (some ⟨b, o2, none⟩) vl d2) (.int .i64 (en : Int))
   have z0 := hRB.fz 0
   have z1 := hRB.fz 1
   have z2 := hRB.fz 2
   have z3 := hRB.fz 3
   obtain ⟨y0, y1, y2, y3⟩ := hRB.cells
   refine wpAnyH_ready (rs := [12]) (by kernel_rfl) (by simp) ?_
   refine AllReadyH.cons (o := { dst := none, op := _, type := _, pos := _, after := _, guard := _ }) rfl (fun KK hK => ?_) AllReadyH.nil
   go_simp
   refine hK.out _ _ hbf (fun hHeld => ?_)
   clear hK z0 z1 z2 z3 y0 y1 y2 y3
   generalize ((((X3.setCell ⟨gr, 0, none⟩ (.int .i64 0)).setCell ⟨gr, 1, none⟩ (.slice (some ⟨b, o1, none⟩) kl d1)).setCell ⟨gr, 2, none⟩ (.slice (some ⟨b, o2, none⟩) vl d2)).setCell ⟨gr, 3, none⟩ (.int .i64 (en : Int))) = Z at *
   try simp only [Act.put, List.setIfInBounds_toArray, List.set_cons_zero, List.set_cons_succ]
   refine wpAnyH_take (i := 13) (oi := { dst := some 6, op := _, type := _, pos := _, after := _, guard := _ }) (v := .bool true) rfl (by kernel_rfl) (by kernel_rfl) (by kernel_rfl) (fun _ _ _ h => h) (Or.inl ⟨by kernel_rfl, fun wy hy => by (go_simp; first | done | omega)⟩) (by assumption) ?_
   try simp only [Act.put, List.setIfInBounds_toArray, List.set_cons_zero, List.set_cons_succ]
   refine wpAnyH_done (by kernel_rfl) (NoPanic.normal ?_) _
   have HBZ := Lib.hid hbf
   have k0 := (HGk.out.later hbf).cell
   have HCm := Lib.hid (bytesCompare_any hKf (HKy.out.later hbf))
   obtain ⟨x0, x1, x2, x3⟩ := hf.cells
   clear hHeld hbf hf hKf hRB
   go_simp
   go_step
   go_wp2_with fail
   refine Calls.mono HCm.out ?_
   rintro z X9 ⟨rfl, rfl⟩
   obtain ⟨cv, hcv⟩ : ∃ cv, ordC K key = cv := ⟨_, rfl⟩
   rw [hcv]
   clear HCm
   go_wp2
   go_ret
   exact ⟨by rw [hcv]; rfl, HBZ.out⟩
 ·go_simp
  have bX0 : Below w.heap.size w ((w.alloc (.cells #[.int .i64 0, .slice none 0 0, .slice none 0 0, .int .i64 0] 109)).drew) := ((Below.refl _ _).alloc (Nat.le_refl _) _).drew
  have hRB : RecB ((w.alloc (.cells #[.int .i64 0, .slice none 0 0, .slice none 0 0, .int .i64 0] 109)).drew) w.heap.size (.int .i64 0) (.slice none 0 0) (.slice none 0 0) (.int .i64 0) := heap_alloc_new w _
  obtain ⟨gr, hgr0⟩ : ∃ gr, w.heap.size = gr := ⟨_, rfl⟩
  have hgr : w.heap.size ≤ gr := by rw [← hgr0]; exact Nat.le_refl _
  rw [hgr0] at hRB ⊢
  clear hgr0
  refine hK.out _ _ bX0 (fun hHeld => ?_)
  clear hK
  generalize ((w.alloc (.cells #[.int .i64 0, .slice none 0 0, .slice none 0 0, .int .i64 0] 109)).drew) = X0 at *
  try simp only [Act.put, List.setIfInBounds_toArray, List.set_cons_zero, List.set_cons_succ]
  refine wpAnyH_ready (rs := [6]) (by kernel_rfl) (by simp) ?_
  refine AllReadyH.cons (o := { dst := some 14, op := _, type := _, pos := _, after := _, guard := _ }) rfl (fun KK hK => ?_) AllReadyH.nil
  go_simp
  go_at_call 70
  refine (HPc.out _ bX0).mono ?_
  rintro e1 X1 ⟨rfl, hb1⟩
  have bX1 : Below w.heap.size w X1 := bX0.trans (hb1.mono bX0.size)
  have hRB := hRB.later hb1
  go_wp2_with fail
  refine hK.out _ _ bX1 (fun hHeld => ?_)
  clear hK
  try simp only [Act.put, List.setIfInBounds_toArray, List.set_cons_zero, List.set_cons_succ]
  refine wpAnyH_ready (rs := [7]) (by kernel_rfl) (by simp) ?_
  refine AllReadyH.cons (o := { dst := some 15, op := _, type := _, pos := _, after := _, guard := _ }) rfl (fun KK hK => ?_) AllReadyH.nil
  go_simp
  go_at_call 71
  refine (HRr.out _ bX1).mono ?_
  rintro e1 X3 ⟨hb2, h | h⟩
  ·rw [HRec.out.1] at h
   cases h.1
  obtain ⟨sh, rr, vv, hrc, o1, d1, o2, d2, rfl, rd1, rd2⟩ := h
  have heq := HRec.out.1.symm.trans hrc
  simp only [Option.some.injEq, Prod.mk.injEq] at heq
  obtain ⟨rfl, rfl, rfl⟩ := heq
  have bX3 : Below w.heap.size w X3 := bX1.trans (hb2.mono bX1.size)
  simp only [HRec.out.2] at rd1
  obtain ⟨vl, hvl⟩ : ∃ vl, kv.2.length = vl := ⟨_, rfl⟩
  obtain ⟨en, hen⟩ : ∃ en, b2 + vl = en := ⟨_, rfl⟩
  have hkl := HNl.out.2
  have hK1 := HNl.out.1
  rw [hkl, hK1] at rd1
  simp only [hkl, hvl, hen]
  have HRd := Lib.hid rd1
  have hRB := hRB.later hb2
  clear hrc rd1 rd2 hen hvl hkl hK1 hb2
  go_wp2_with fail
  refine hK.out _ _ bX3 (fun hHeld => ?_)
  clear hK
  try simp only [Act.put, List.setIfInBounds_toArray, List.set_cons_zero, List.set_cons_succ]
  refine wpAnyH_take (i := 8) (oi := { dst := some 7, op := _, type := _, pos := _, after := _, guard := _ }) (v := .tuple #[.agg #[.int .i64 0, .slice (some ⟨b, o1, none⟩) kl d1, .slice (some ⟨b, o2, none⟩) vl d2, .int .i64 (en : Int)], .bool true]) rfl (by kernel_rfl) (by kernel_rfl) (by kernel_rfl) (fun _ _ _ h => h) (Or.inl ⟨by kernel_rfl, fun wy hy => by (go_simp; first | done | omega)⟩) (by assumption) ?_
  try simp only [Act.put, List.setIfInBounds_toArray, List.set_cons_zero, List.set_cons_succ]
  refine wpAnyH_take (i := 9) (oi := { dst := some 16, op := _, type := _, pos := _, after := _, guard := _ }) (v := .agg #[.int .i64 0, .slice (some ⟨b, o1, none⟩) kl d1, .slice (some ⟨b, o2, none⟩) vl d2, .int .i64 (en : Int)]) rfl (by kernel_rfl) (by kernel_rfl) (by kernel_rfl) (fun _ _ _ h => h) (Or.inl ⟨by kernel_rfl, fun wy hy => by (go_simp; first | done | omega)⟩) (by assumption) ?_
  try simp only [Act.put, List.setIfInBounds_toArray, List.set_cons_zero, List.set_cons_succ]
  refine wpAnyH_take (i := 10) (oi := { dst := some 17, op := _, type := _, pos := _, after := _, guard := _ }) (v := .bool true) rfl (by kernel_rfl) (by kernel_rfl) (by kernel_rfl) (fun _ _ _ h => h) (Or.inl ⟨by kernel_rfl, fun wy hy => by (go_simp; first | done | omega)⟩) (by assumption) ?_
  try simp only [Act.put, List.setIfInBounds_toArray, List.set_cons_zero, List.set_cons_succ]
  have hf := hRB.fill (.int .i64 0) (.slice (some ⟨b, o1, none⟩) kl d1) (.slice (some ⟨b, o2, none⟩) vl d2) (.int .i64 (en : Int))
  have hbf := fill_below bX3 hgr (.int .i64 0) (.slice (some ⟨b, o1, none⟩) kl d1) (.slice (some ⟨b, o2, none⟩) vl d2) (.int .i64 (en : Int))
  have hKf := hRB.rd HRd.out (.int .i64 0) (.slice (some ⟨b, o1, none⟩) kl d1) (.slice (some ⟨b, o2, none⟩) vl d2) (.int .i64 (en : Int))
  have z0 := hRB.fz 0
  have z1 := hRB.fz 1
  have z2 := hRB.fz 2
  have z3 := hRB.fz 3
  obtain ⟨y0, y1, y2, y3⟩ := hRB.cells
  refine wpAnyH_ready (rs := [12]) (by kernel_rfl) (by simp) ?_
  refine AllReadyH.cons (o := { dst := none, op := _, type := _, pos := _, after := _, guard := _ }) rfl (fun KK hK => ?_) AllReadyH.nil
  go_simp
  refine hK.out _ _ hbf (fun hHeld => ?_)
  clear hK z0 z1 z2 z3 y0 y1 y2 y3
  generalize ((((X3.setCell ⟨gr, 0, none⟩ (.int .i64 0)).setCell ⟨gr, 1, none⟩ (.slice (some ⟨b, o1, none⟩) kl d1)).setCell ⟨gr, 2, none⟩ (.slice (some ⟨b, o2, none⟩) vl d2)).setCell ⟨gr, 3, none⟩ (.int .i64 (en : Int))) = Z at *
  try simp only [Act.put, List.setIfInBounds_toArray, List.set_cons_zero, List.set_cons_succ]
  refine wpAnyH_take (i := 13) (oi := { dst := some 6, op := _, type := _, pos := _, after := _, guard := _ }) (v := .bool true) rfl (by kernel_rfl) (by kernel_rfl) (by kernel_rfl) (fun _ _ _ h => h) (Or.inl ⟨by kernel_rfl, fun wy hy => by (go_simp; first | done | omega)⟩) (by assumption) ?_
  try simp only [Act.put, List.setIfInBounds_toArray, List.set_cons_zero, List.set_cons_succ]
  refine wpAnyH_done (by kernel_rfl) (NoPanic.normal ?_) _
  have HBZ := Lib.hid hbf
  have k0 := (HGk.out.later hbf).cell
  have HCm := Lib.hid (bytesCompare_any hKf (HKy.out.later hbf))
  obtain ⟨x0, x1, x2, x3⟩ := hf.cells
  clear hHeld hbf hf hKf hRB
  go_simp
  go_step
  go_wp2_with fail
  refine Calls.mono HCm.out ?_
  rintro z X9 ⟨rfl, rfl⟩
  obtain ⟨cv, hcv⟩ : ∃ cv, ordC K key = cv := ⟨_, rfl⟩
  rw [hcv]
  clear HCm
  go_wp2
  go_ret
  exact ⟨by rw [hcv]; rfl, HBZ.out⟩
theorem seek1_enters : ∀ args w, (callFunc 101 args).run Tryz.prog w = .ok (.enter 101 args) w := enters_of Tryz.func101 (by kernel_rfl) rfl
theorem up_mono : ∀ (l : List (List Nat × List Nat)) (la : List Nat) (i : Nat) (x : List Nat × List Nat), Up la l → l[i]? = some x → ordC la x.1 < 0
 | [], la, i, x, _, h => by simp at h
 | kv :: t, la, 0, x, hu, h => by simp at h; rw [← h]; exact hu.1
 | kv :: t, la, i + 1, x, hu, h => by
  have h1 := up_mono t kv.1 i x hu.2 (by simpa using h)
  have h2 := hu.1
  have := tri_ordC la kv.1 x.1
  unfold Tri at this
  have := ordC_small la kv.1
  have := ordC_small kv.1 x.1
  have := ordC_small la x.1
  omega
theorem up_lt : ∀ (l : List (List Nat × List Nat)) (la : List Nat) (i j : Nat) (x y : List Nat × List Nat), Up la l → i < j → l[i]? = some x → l[j]? = some y → ordC x.1 y.1 < 0
 | [], la, i, j, x, y, _, _, h, _ => by simp at h
 | kv :: t, la, 0, 0, x, y, _, hij, _, _ => by omega
 | kv :: t, la, 0, j + 1, x, y, hu, hij, h, k => by
  simp at h
  rw [← h]
  exact up_mono t kv.1 j y hu.2 (by simpa using k)
 | kv :: t, la, i + 1, 0, x, y, _, hij, _, _ => by omega
 | kv :: t, la, i + 1, j + 1, x, y, hu, hij, h, k => up_lt t kv.1 i j x y hu.2 (by omega) (by simpa using h) (by simpa using k)
theorem notLow_mono {r : Nat} {l : List (List Nat × List Nat)} (hr : 1 ≤ r) (hu : Up [] l) (key : List Nat) (a b : Nat) (hab : a ≤ b) (hb : b * r < l.length) (h : notLow r l key a = true) : notLow r l key b = true := by
 unfold notLow at *
 rw [decide_eq_true_iff] at *
 by_cases e : a = b
 ·rw [← e]; exact h
 have hlt : a * r < b * r := Nat.mul_lt_mul_of_pos_right (by omega) (by omega)
 rw [List.getElem?_eq_getElem (show a * r < l.length by omega)] at h
 rw [List.getElem?_eq_getElem hb]
 simp only [Option.getD_some] at *
 have h1 := up_lt l [] (a * r) (b * r) _ _ hu hlt (List.getElem?_eq_getElem (by omega)) (List.getElem?_eq_getElem hb)
 have := tri_ordC (l[a * r]'(by omega)).1 (l[b * r]'hb).1 key
 unfold Tri at this
 have := ordC_small (l[a * r]'(by omega)).1 (l[b * r]'hb).1
 have := ordC_small (l[b * r]'hb).1 key
 have := ordC_small (l[a * r]'(by omega)).1 key
 omega
set_option maxRecDepth 100000 in
set_option maxHeartbeats 2000000 in
theorem seekRestart_any {W : World} {g r b ne ce np cp B : Nat} {E P key : List Nat} {l : List (List Nat × List Nat)} {ak : Option Addr} {kn kc : Nat} (hL : Blad r l E P) (hk : Lk W B g r l.length b ne ce E P np cp) (hkey : Rd W (.slice ak kn kc) key) :
  Calls Tryz.prog 69 #[.pointer (some ⟨g, 0, none⟩), .slice ak kn kc] W fun e w' => SeP W ((l.length + r - 1) / r) (notLow r l key) e w' := by
 have hr1 := hL.r1
 obtain ⟨n, hn⟩ : ∃ n, (l.length + r - 1) / r = n := ⟨_, rfl⟩
 have hnp : np = 4 * n := by rw [(rd_lens hk.pls).1, hL.psl, hn]; omega
 have hnl : ∀ k, k < n → k * r < l.length := fun k hk => by
  have h1 : k + 1 ≤ (l.length + r - 1) / r := by omega
  rw [Nat.le_div_iff_mul_le (by omega), Nat.add_mul] at h1
  omega
 have hn32 : n < 4294967296 := by
  have := hL.size
  have := hL.psl
  rw [hn] at this
  omega
 have A1 := (Below.refl W.heap.size W).alloc (Nat.le_refl _) (.cells #[.pointer (some ⟨g, 0, none⟩)] 58)
 have A2 := A1.alloc A1.size (.cells #[.slice ak kn kc] 36)
 have B1 : Cell1B (W.alloc (.cells #[.pointer (some ⟨g, 0, none⟩)] 58)) W.heap.size (.pointer (some ⟨g, 0, none⟩)) 58 := heap_alloc_new W _
 have B2 := B1.later ((Below.refl _ _).alloc (Nat.le_refl _) (.cells #[.slice ak kn kc] 36))
 have B3 : Cell1B ((W.alloc (.cells #[.pointer (some ⟨g, 0, none⟩)] 58)).alloc (.cells #[.slice ak kn kc] 36)) (W.heap.size + 1) (.slice ak kn kc) 36 := by
  have := heap_alloc_new (W.alloc (.cells #[.pointer (some ⟨g, 0, none⟩)] 58)) (.cells #[.slice ak kn kc] 36)
  simpa [Cell1B] using this
 obtain ⟨X, hX⟩ : ∃ X, X = (W.alloc (.cells #[.pointer (some ⟨g, 0, none⟩)] 58)).alloc (.cells #[.slice ak kn kc] 36) := ⟨_, rfl⟩
 rw [← hX] at A2 B2 B3
 have HS := Lib.hid (search_any (W := X) (n := n) (cs := #[.pointer (some ⟨W.heap.size, 0, none⟩), .pointer (some ⟨W.heap.size + 1, 0, none⟩)]) (p := notLow r l key) seek1_enters hn32 (fun w k hkn hw => seek1_any hL ((hk.box.later A2).later hw) ((hk.ents.later A2).later hw) ((hk.pls.later A2).later hw) (B2.later hw) (B3.later hw) ((hkey.later A2).later hw) k (hnl k hkn)) (fun a b' h1 h2 h3 => notLow_mono hr1 hL.up key a b' h1 (hnl b' h2) h3))
 obtain ⟨q0, q1, q2, q3⟩ := (hk.box.later A2).cells
 have d0 := B2.cell
 have HX := Lib.hid hX
 have HA2 := Lib.hid A2
 have hnpi : (np : Int) / 4 = (n : Int) := by omega
 rw [hn]
 clear A1 A2 B1 B2 B3 hX hnp hnl hn hk hL hkey
 go_enter Tryz.func69, Tryz.ntmps69
 go_upto_region 1 with fail
 rw [← HX.out]
 clear HX
 go_wp2_with fail
 refine Calls.mono HS.out ?_
 rintro z Y ⟨⟨i, rfl, hf⟩, bY⟩
 have HE : Hid (SeP W n (notLow r l key) (.returned (.int .i64 (i : Int))) Y) := ⟨⟨i, rfl, hf⟩, HA2.out.trans (bY.mono HA2.out.size)⟩
 clear HS hf bY
 go_wp2
 go_ret
 exact HE.out
end Go.Proofs.YtchebhafabhabaaGreatDoor

namespace Go.Proofs.YtchebhafabhabaaGreatDoor
open Go.RowKit Go.Shelf
set_option linter.unusedVariables false

set_option maxRecDepth 100000 in
set_option maxHeartbeats 2000000 in
theorem seek_first {W : World} {g r b ne ce np cp B : Nat} {E P key : List Nat} {l : List (List Nat × List Nat)} {ak : Option Addr} {kn kc : Nat} (hL : Blad r l E P) (hk : Lk W B g r l.length b ne ce E P np cp) (hkey : Rd W (.slice ak kn kc) key) (h0 : notLow r l key 0 = true) :
  Calls Tryz.prog 30 #[.pointer (some ⟨g, 0, none⟩), .slice ak kn kc] W fun e w' => e = .returned (.int .i64 0) ∧ Below W.heap.size W w' := by
 have HS := Lib.hid (seekRestart_any hL hk hkey)
 have H0 := Lib.hid h0
 clear hL hk hkey h0
 go_enter Tryz.func30, Tryz.ntmps30
 go_wp2
 go_step3
 go_wp2_with fail
 refine Calls.mono HS.out ?_
 rintro z Y ⟨⟨i, rfl, hf⟩, bY⟩
 have hi : i = 0 := by
  cases i with
  | zero => rfl
  | succ i => have := hf.lo 0 (by omega); rw [H0.out] at this; cases this
 subst hi
 have HB := Lib.hid bY
 clear HS hf bY
 go_wp2
 try rw [Exit.noGoto_ret]
 go_ret
 exact ⟨rfl, HB.out⟩
end Go.Proofs.YtchebhafabhabaaGreatDoor
