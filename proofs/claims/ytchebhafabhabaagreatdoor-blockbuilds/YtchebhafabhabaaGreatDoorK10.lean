import Derived.Test.YtchebhafabhabaaGreatDoorK09
namespace Go.Proofs.YtchebhafabhabaaGreatDoor
open Go.RowKit Go.Shelf
set_option linter.unusedVariables false

theorem getD_mid (A B C : List Nat) (k : Nat) (hk : k < B.length) : (A ++ (B ++ C)).getD (A.length + k) 0 = B.getD k 0 := by
 rw [List.getD_eq_getElem?_getD, List.getD_eq_getElem?_getD, List.getElem?_append_right (by omega), Nat.add_sub_cancel_left, List.getElem?_append_left hk]
theorem blockL_len (E P : List Nat) (n r : Nat) : (blockL E P n r).length = E.length + P.length + 9 := by
 simp [blockL, bodyL, be4, le4]; omega
theorem block_cnt (E P : List Nat) (n r : Nat) (hn : n < 4294967296) : cntOf (blockL E P n r) = n ∧ rstOf (blockL E P n r) = r := by
 have e : blockL E P n r = (E ++ P) ++ (be4 n ++ ([r] ++ le4 (sumL (bodyL E P n r)))) := by simp [blockL, bodyL]
 have e2 : blockL E P n r = (E ++ P ++ be4 n) ++ ([r] ++ le4 (sumL (bodyL E P n r))) := by simp [blockL, bodyL]
 have f : (blockL E P n r).length - 9 = (E ++ P).length := by rw [blockL_len]; simp
 have g : ∀ k, k < 4 → (blockL E P n r).getD ((blockL E P n r).length - 9 + k) 0 = (be4 n).getD k 0 := fun k hk => by
  rw [f, e]
  exact getD_mid _ _ _ k (by simpa [be4] using hk)
 refine ⟨?_, ?_⟩
 ·unfold cntOf
  have g0 := g 0 (by omega)
  rw [Nat.add_zero] at g0
  rw [g0, g 1 (by omega), g 2 (by omega), g 3 (by omega)]
  simp only [be4, List.getD_cons_zero, List.getD_cons_succ]
  unfold rdle
  omega
 ·unfold rstOf
  have h4 : (blockL E P n r).length - 9 + 4 = (E ++ P ++ be4 n).length + 0 := by rw [f]; simp [be4]; omega
  rw [h4, e2]
  exact getD_mid _ _ _ 0 (by simp)
theorem block_sum (E P : List Nat) (n r : Nat) : (blockL E P n r).take ((blockL E P n r).length - 4) = bodyL E P n r ∧ sum4 (blockL E P n r) = sumL (bodyL E P n r) := by
 have f : (blockL E P n r).length - 4 = (bodyL E P n r).length := by simp [blockL, le4]
 have g : ∀ k, k < 4 → (blockL E P n r).getD ((blockL E P n r).length - 4 + k) 0 = (le4 (sumL (bodyL E P n r))).getD k 0 := fun k hk => by
  rw [f]
  have := getD_mid (bodyL E P n r) (le4 (sumL (bodyL E P n r))) [] k (by simpa [le4] using hk)
  rw [List.append_nil] at this
  exact this
 refine ⟨?_, ?_⟩
 ·rw [f]; unfold blockL; rw [List.take_left]
 ·unfold sum4
  have g0 := g 0 (by omega)
  rw [Nat.add_zero] at g0
  rw [g0, g 1 (by omega), g 2 (by omega), g 3 (by omega)]
  have := le4_sum (sumL (bodyL E P n r)) (sumL_lt _)
  simpa only [le4, List.getD_cons_zero, List.getD_cons_succ] using this
structure Blad (r : Nat) (l : List (List Nat × List Nat)) (E P : List Nat) : Prop where
 r1 : 1 ≤ r
 r16 : r ≤ 16
 es : E = (foldB r Bs.zero l).es
 ps : P = (foldB r Bs.zero l).ps
 ok : ∀ kv ∈ l, okIt kv.1 kv.2
 up : Up [] l
 some_ : l ≠ []
 size : E.length + P.length + 9 ≤ 131072
theorem foldB_few (r : Nat) : ∀ (l : List (List Nat × List Nat)) (s : Bs), s.n ≤ s.es.length → (foldB r s l).n ≤ (foldB r s l).es.length
 | [], s, h => h
 | kv :: t, s, h => by
  simp only [foldB]
  refine foldB_few r t _ ?_
  simp only [addB, esOf, List.length_append, recL]
  have := (uintL_len (shOf r s kv.1)).1
  omega
theorem Blad.few {r : Nat} {l : List (List Nat × List Nat)} {E P : List Nat} (h : Blad r l E P) : l.length ≤ E.length := by
 have := foldB_few r l Bs.zero (Nat.le_refl _)
 rw [foldB_n, ← h.es] at this
 simpa [Bs.zero] using this
theorem zero_ps {r : Nat} (hr : 1 ≤ r) : Bs.zero.ps.length = (Bs.zero.n + r - 1) / r * 4 := by
 have := (ceil_now (n := 0) hr).1 (by simp)
 simp only [Bs.zero]
 rw [this]
 simp
theorem Blad.psl {r : Nat} {l : List (List Nat × List Nat)} {E P : List Nat} (h : Blad r l E P) : P.length = (l.length + r - 1) / r * 4 := by
 have := ps_fold h.r1 l Bs.zero (zero_ps h.r1)
 rw [foldB_n, ← h.ps] at this
 simpa [Bs.zero] using this
theorem Blad.opens {r : Nat} {l : List (List Nat × List Nat)} {E P : List Nat} (h : Blad r l E P) : opE (blockL E P l.length r) = 0 ∧ cntOf (blockL E P l.length r) = l.length ∧ rstOf (blockL E P l.length r) = r ∧ entsOf (blockL E P l.length r) = E ∧ placesOf5 (blockL E P l.length r) = P := by
 have hs := h.size
 have hf := h.few
 have hp := h.psl
 have hl := blockL_len E P l.length r
 obtain ⟨c1, c2⟩ := block_cnt E P l.length r (by omega)
 obtain ⟨s1, s2⟩ := block_sum E P l.length r
 have hn : nrsOf (blockL E P l.length r) = (l.length + r - 1) / r := by unfold nrsOf; rw [c1, c2]
 have hpl : plsOf (blockL E P l.length r) = E.length := by unfold plsOf; rw [hn, hl]; omega
 have e : blockL E P l.length r = E ++ (P ++ (be4 l.length ++ ([r] ++ le4 (sumL (bodyL E P l.length r))))) := by simp [blockL, bodyL]
 have e3 : blockL E P l.length r = (E ++ P) ++ (be4 l.length ++ ([r] ++ le4 (sumL (bodyL E P l.length r)))) := by simp [blockL, bodyL]
 have hE : entsOf (blockL E P l.length r) = E := by unfold entsOf; rw [hpl, e, List.take_left]
 have hP : placesOf5 (blockL E P l.length r) = P := by
  unfold placesOf5
  rw [hpl, hl, e3, show E.length + P.length + 9 - 9 = (E ++ P).length by simp, List.take_left, List.drop_left]
 refine ⟨?_, c1, c2, hE, hP⟩
 have hl0 : l.length ≠ 0 := fun k => h.some_ (List.eq_nil_of_length_eq_zero k)
 unfold opE
 rw [if_neg (by omega), if_neg (by omega), if_neg (by rw [s1, s2]; exact fun k => k rfl), if_pos]
 refine ⟨⟨by rw [c1]; exact hl0, by rw [c2]; exact ⟨h.r1, h.r16⟩, by rw [hn, hl]; omega⟩, ?_⟩
 rw [c1, c2, hE, hP, h.es, h.ps]
 exact sound_lay h.r1 l h.ok h.up (by rw [← h.es]; omega)
theorem laid_of {r : Nat} {l : List EntD} (h1 : 1 ≤ r) (h16 : r ≤ 16) (h : (bldS r Bs.zero l).1 = 0) (hl : l ≠ []) : Blad r (kvL l) (bldS r Bs.zero l).2.es (bldS r Bs.zero l).2.ps := by
 obtain ⟨f1, f2, f3, f4⟩ := bldS_fold r l Bs.zero h
 rw [f1]
 refine ⟨h1, h16, rfl, rfl, ?_, f3, ?_, ?_⟩
 ·intro kv hkv
  obtain ⟨e, he, rfl⟩ := List.mem_map.1 hkv
  exact ok_of_check (f2 e he)
 ·intro k
  exact hl (List.map_eq_nil_iff.1 k)
 ·rcases f4 with rfl | f4
  ·exact absurd rfl hl
  ·exact f4
theorem kvL_len (l : List EntD) : (kvL l).length = l.length := by simp [kvL]
end Go.Proofs.YtchebhafabhabaaGreatDoor

namespace Go.Proofs.YtchebhafabhabaaGreatDoor
open Go.RowKit Go.Shelf
set_option linter.unusedVariables false

structure AtI (gi ge i B0 : Nat) (st : Option (List Nat × List Nat) × EntD) (w : World) : Prop where
 i_ : Cell1B w gi (.int .i64 (i : Int)) 3
 e : EBox w ge st.2
 o1 : Own w B0 st.2.vr st.2.row.length st.2.row
 o2 : Own w B0 st.2.vq st.2.qual.length st.2.qual
 o3 : Own w B0 st.2.vv st.2.val.length st.2.val
 by_ : Bys st.2.row ∧ Bys st.2.qual ∧ Bys st.2.val
 len : st.2.row.length ≤ 281474976710656 ∧ st.2.qual.length ≤ 281474976710656 ∧ st.2.val.length ≤ 281474976710656
 fact : ∀ kv, st.1 = some kv → (IsKey kv.1 → keyL st.2 = kv.1 ∧ st.2.val = kv.2) ∧ (checkS st.2 = 0 ↔ okIt kv.1 kv.2)
 lo : gi < B0 ∧ ge < B0 ∧ gi ≠ ge
 B : B0 ≤ w.heap.size
def AtO (ge : Nat) (st : Option (List Nat × List Nat) × EntD) (k : Nat) : Prop := k = ge ∨ st.2.vr.ownBlock = some k ∨ st.2.vq.ownBlock = some k ∨ st.2.vv.ownBlock = some k
def AtA (i : Nat) (st : Option (List Nat × List Nat)) (it : It) : Bool × Option (List Nat × List Nat) := if it.number < i then (true, st) else (false, some (it.key, it.val))
theorem AtI.stays {gi ge i B0 : Nat} {st : Option (List Nat × List Nat) × EntD} {w w' : World} {O' : Nat → Prop} (h : AtI gi ge i B0 st w) (f : Fb w w' O') (hk : ∀ k, k < w.heap.size → AtO ge st k → ¬ O' k) (hL : ∀ k, O' k → B0 ≤ k) : AtI gi ge i B0 st w' := by
 have hl := h.lo
 have hB := h.B
 have hge : ge < w.heap.size := (Array.getElem?_eq_some_iff.1 h.e).1
 exact ⟨h.i_.fb f (fun k => by have := hL _ k; omega), h.e.fb f (hk _ hge (.inl rfl)), h.o1.fb f (fun k ho => hk k (h.o1.2.lt _ ho).2 (.inr (.inl ho))), h.o2.fb f (fun k ho => hk k (h.o2.2.lt _ ho).2 (.inr (.inr (.inl ho)))), h.o3.fb f (fun k ho => hk k (h.o3.2.lt _ ho).2 (.inr (.inr (.inr ho)))), h.by_, h.len, h.fact, h.lo, Nat.le_trans h.B f.size⟩
theorem Fb.of_apart {w w' : World} {g : Nat} {O : Nat → Prop} (h : Apart g w w') (hg : O g) : Fb w w' O := ⟨h.os, h.tape, h.output, h.size, fun k hk ho => h.block k hk (fun z => ho (by rw [z]; exact hg))⟩
set_option maxRecDepth 100000 in
set_option maxHeartbeats 4000000 in
theorem at1_asks {gi ge i N B0 : Nat} (hi : i < 4294967296) (hN : N < 4294967296)
  (st : Option (List Nat × List Nat) × EntD) (w : World) (it : It) (ak av : Option Addr) (kc vc kn vn : Nat) (hI : AtI gi ge i B0 st w) (hnu : it.number < N) (hkn : kn = it.key.length) (hvn : vn = it.val.length) (hk : Rd w (.slice ak kn kc) it.key) (hv : Rd w (.slice av vn vc) it.val) (hkl : kn ≤ 131072) (hvl : vn ≤ 131072)
  (hst : ∀ w', Fb w w' (AtO ge st) → Rd w' (.slice ak kn kc) it.key ∧ Rd w' (.slice av vn vc) it.val) :
  Calls Tryz.prog 77 (#[.agg #[.int .i64 (it.number : Int), .int .i64 (it.place : Int), .int .i64 (it.shared : Int), .slice ak kn kc, .slice av vn vc]] ++ #[.pointer (some ⟨gi, 0, none⟩), .pointer (some ⟨ge, 0, none⟩)]) w fun e w' => e = .returned (.bool (AtA i st.1 it).1) ∧ ∃ mm, AtI gi ge i B0 ((AtA i st.1 it).2, mm) w' ∧ Fb w w' (AtO ge st) ∧ ∀ k, AtO ge ((AtA i st.1 it).2, mm) k → AtO ge st k ∨ w.heap.size ≤ k := by
 obtain ⟨nu, pl, sh, K, V⟩ := it
 obtain ⟨s0, D⟩ := st
 simp only at *
 have A1 := (Below.refl w.heap.size w).alloc (Nat.le_refl _) (.cells #[.int .i64 nu, .int .i64 pl, .int .i64 sh, .slice ak kn kc, .slice av vn vc] 116)
 have ib := IBox.new w nu pl sh (.slice ak kn kc) (.slice av vn vc)
 obtain ⟨X, hX⟩ : ∃ X, X = w.alloc (.cells #[.int .i64 nu, .int .i64 pl, .int .i64 sh, .slice ak kn kc, .slice av vn vc] 116) := ⟨_, rfl⟩
 rw [← hX] at A1 ib
 have HX := Lib.hid hX
 have fX : Fb w X (AtO ge (s0, D)) := Fb.of_below A1
 have hIX : AtI gi ge i B0 (s0, D) X := hI.stays (Fb.of_below (O := fun _ => False) A1) (fun _ _ _ h => h) (fun _ h => h.elim)
 have HEn := Lib.hid (entry_any (nu : Int) (pl : Int) (sh : Int) (hk.later A1) (hv.later A1) hkl hvl)
 have HIX := Lib.hid hIX
 have HFX := Lib.hid fX
 have HA1 := Lib.hid A1
 have hnl : nu < 4294967296 := by omega
 obtain ⟨c0, c1, c2, c3, c4⟩ := ib.cells
 have d0 := hIX.i_.cell
 clear hX A1 ib fX hIX hI hk hv hst hnu hkn hvn
 by_cases hlt : nu < i
 ·have e1 : AtA i s0 ⟨nu, pl, sh, K, V⟩ = (true, s0) := by unfold AtA; rw [if_pos hlt]
  have hlt2 : (nu : Int) < (i : Int) := by omega
  have HEnd : Hid (∃ mm, AtI gi ge i B0 (s0, mm) X ∧ Fb w X (AtO ge (s0, D)) ∧ ∀ k, AtO ge (s0, mm) k → AtO ge (s0, D) k ∨ w.heap.size ≤ k) := ⟨D, HIX.out, HFX.out, fun k h => .inl h⟩
  rw [e1]
  clear e1 HEn
  go_enter Tryz.func77, Tryz.ntmps77
  go_upto_region 1 with fail
  rw [← HX.out]
  clear HX
  go_wp2
  go_ret
  exact ⟨rfl, HEnd.out⟩
 ·have e1 : AtA i s0 ⟨nu, pl, sh, K, V⟩ = (false, some (K, V)) := by unfold AtA; rw [if_neg hlt]
  have hlt2 : ¬ (nu : Int) < (i : Int) := by omega
  rw [e1]
  clear e1
  go_enter Tryz.func77, Tryz.ntmps77
  go_upto_region 1 with fail
  rw [← HX.out]
  clear HX
  go_wp2_with fail
  refine Calls.mono HEn.out ?_
  rintro z X1 ⟨e, rfl, hok, hchk, hkey, b1, y1, y2, y3⟩
  obtain ⟨ve, fam, vq, ts, seq, kind, vv, row, qual, val⟩ := e
  obtain ⟨k1, k2, k3⟩ := hok
  simp only at k1 k2 k3 y1 y2 y3
  obtain ⟨ar, mr, cr, rfl⟩ := rd_slice k1
  obtain ⟨aq, mq, cq, rfl⟩ := rd_slice k2
  obtain ⟨aw, mw, cw, rfl⟩ := rd_slice k3
  have hI1 : AtI gi ge i B0 (s0, D) X1 := HIX.out.stays (Fb.of_below (O := fun _ => False) b1) (fun _ _ _ h => h) (fun _ h => h.elim)
  have hBw : B0 ≤ X.heap.size := HIX.out.B
  have ap := filled_apart X1 ge ⟨.slice ar mr cr, fam, .slice aq mq cq, ts, seq, kind, .slice aw mw cw, row, qual, val⟩
  have bx := filled_box hI1.e ⟨.slice ar mr cr, fam, .slice aq mq cq, ts, seq, kind, .slice aw mw cw, row, qual, val⟩
  have fY : Fb w (filled X1 ge ⟨.slice ar mr cr, fam, .slice aq mq cq, ts, seq, kind, .slice aw mw cw, row, qual, val⟩) (AtO ge (s0, D)) := (HFX.out.trans (Fb.of_below b1 |>.mono (fun _ _ h => h) : Fb X X1 (AtO ge (s0, D)))).trans (Fb.of_apart ap (.inl rfl))
  have hXw : w.heap.size ≤ X.heap.size := HA1.out.size
  have HEnd : Hid (∃ mm, AtI gi ge i B0 (some (K, V), mm) (filled X1 ge ⟨.slice ar mr cr, fam, .slice aq mq cq, ts, seq, kind, .slice aw mw cw, row, qual, val⟩) ∧ Fb w (filled X1 ge ⟨.slice ar mr cr, fam, .slice aq mq cq, ts, seq, kind, .slice aw mw cw, row, qual, val⟩) (AtO ge (s0, D)) ∧ ∀ k, AtO ge (some (K, V), mm) k → AtO ge (s0, D) k ∨ w.heap.size ≤ k) := by
   refine ⟨⟨.slice ar mr cr, fam, .slice aq mq cq, ts, seq, kind, .slice aw mw cw, row, qual, val⟩, ⟨?_, bx, ((y1.mono hBw).apartE hI1.e ap), ((y2.mono hBw).apartE hI1.e ap), ((y3.mono hBw).apartE hI1.e ap), ⟨k1.1, k2.1, k3.1⟩, ⟨?_, ?_, ?_⟩, ?_, hI1.lo, Nat.le_trans hI1.B ap.size⟩, fY, ?_⟩
   ·exact hI1.i_.fb (Fb.of_apart (O := fun k => k = ge) ap rfl) hI1.lo.2.2
   ·have := rd_lens k1; simp only; omega
   ·have := rd_lens k2; simp only; omega
   ·have := rd_lens k3; simp only; omega
   ·intro kv h
    cases h
    exact ⟨hkey, hchk⟩
   ·rintro k (h | h | h | h)
    ·exact .inl (.inl h)
    ·exact .inr (Nat.le_trans hXw (y1.2.lt _ h).1)
    ·exact .inr (Nat.le_trans hXw (y2.2.lt _ h).1)
    ·exact .inr (Nat.le_trans hXw (y3.2.lt _ h).1)
  obtain ⟨g0, g1, g2, g3, g4, g5, g6⟩ := hI1.e.cells7
  obtain ⟨gf0, gf1, gf2, gf3, gf4, gf5, gf6⟩ := EBox.fz7b hI1.e
  simp only [filled] at HEnd
  clear k1 k2 k3 y1 y2 y3 hI1 ap bx fY b1 hkey hchk HEn HIX HFX c0 c1 c2 c3 c4 d0
  simp only [EntD.cells]
  go_wp2
  go_ret
  exact ⟨rfl, HEnd.out⟩
end Go.Proofs.YtchebhafabhabaaGreatDoor

namespace Go.Proofs.YtchebhafabhabaaGreatDoor
open Go.RowKit Go.Shelf
set_option linter.unusedVariables false

theorem at1_asker {gi ge i N B0 : Nat} (hi : i < 4294967296) (hN : N < 4294967296) :
  Asker (Option (List Nat × List Nat)) EntD 77 #[.pointer (some ⟨gi, 0, none⟩), .pointer (some ⟨ge, 0, none⟩)] N B0 (AtI gi ge i B0) (AtO ge) (AtA i) where
 enters := enters_of Tryz.func77 (by kernel_rfl) rfl
 lt := fun st w k h ho => by
  rcases ho with rfl | ho | ho | ho
  ·exact (Array.getElem?_eq_some_iff.1 h.e).1
  ·exact (h.o1.2.lt _ ho).2
  ·exact (h.o2.2.lt _ ho).2
  ·exact (h.o3.2.lt _ ho).2
 stays := fun st w w' O' h f hk hL => h.stays f hk hL
 asks := at1_asks hi hN
theorem ask_at (i p : Nat) (r : Nat) : ∀ (l : List (List Nat × List Nat)) (s : Bs) (kv : List Nat × List Nat), s.n ≤ i → l[i - s.n]? = some kv → (askB (AtA i) p (itemsB r s l) none).2.2 = some kv
 | [], s, kv, h, hk => by simp at hk
 | x :: t, s, kv, h, hk => by
  simp only [itemsB, askB, AtA]
  by_cases hlt : s.n < i
  ·simp only [hlt, if_true]
   refine ask_at i p r t (addB r s x.1 x.2) kv (by simp only [addB]; omega) ?_
   rw [show i - s.n = (i - (addB r s x.1 x.2).n) + 1 by simp only [addB]; omega] at hk
   simpa using hk
  ·simp only [hlt, if_false]
   have : i - s.n = 0 := by omega
   rw [this] at hk
   simp at hk
   rw [← hk]
   rfl
theorem walk_from {S : Type} (A : S → It → Bool × S) {r : Nat} {l : List (List Nat × List Nat)} {E P : List Nat} (h : Blad r l E P) (q : Nat) (hq : q * r < l.length) (st : S) :
  wordAt P q ≤ E.length ∧ walkS E A (l.length - q * r) (q * r) (wordAt P q) [] st = askB A E.length (itemsB r (foldB r Bs.zero (l.take (q * r))) (l.drop (q * r))) st := by
 have hr := h.r1
 obtain ⟨s, hs⟩ : ∃ s, foldB r Bs.zero (l.take (q * r)) = s := ⟨_, rfl⟩
 have hsn : s.n = q * r := by rw [← hs, foldB_n]; simp [Bs.zero]; omega
 have hE : E = (foldB r s (l.drop (q * r))).es := by rw [h.es, ← hs, ← foldB_app, List.take_append_drop]
 have hP : P = (foldB r s (l.drop (q * r))).ps := by rw [h.ps, ← hs, ← foldB_app, List.take_append_drop]
 have hps : s.ps.length = (s.n + r - 1) / r * 4 := by rw [← hs]; exact ps_fold hr _ _ (zero_ps hr)
 have h0 : s.n % r = 0 := by rw [hsn]; exact Nat.mul_mod_left _ _
 have hla : s.la.length ≤ s.es.length := by
  rw [← hs]
  have : ∀ (l : List (List Nat × List Nat)) (s : Bs), s.la.length ≤ s.es.length → (foldB r s l).la.length ≤ (foldB r s l).es.length := by
   intro l
   induction l with
   | nil => intro s h; exact h
   | cons kv t ih => intro s h; simp only [foldB]; exact ih _ (com_la r s kv.1 kv.2 h).2.2
  exact this _ _ (Nat.le_refl _)
 obtain ⟨m, hm⟩ := foldB_es r (l.drop (q * r)) s
 have hel : s.es.length ≤ E.length := by rw [hE, hm]; simp
 have hsz := h.size
 obtain ⟨x, t, hxt⟩ : ∃ x t, l.drop (q * r) = x :: t := by
  cases hd : l.drop (q * r) with
  | nil => have := List.drop_eq_nil_iff.1 hd; omega
  | cons x t => exact ⟨x, t, rfl⟩
 have hw : wordAt P q = s.es.length := by
  rw [hP, hxt]
  have := word_lay hr x t s hps h0 (by omega)
  rw [hsn, Nat.mul_div_cancel _ (by omega)] at this
  exact this
 refine ⟨by omega, ?_⟩
 rw [hw, hs]
 have := walk_lay A r (l.drop (q * r)) s [] st E hE (.inl h0) hla (by omega)
 rw [List.length_drop, hsn] at this
 exact this
def AtP (w : World) (l : List (List Nat × List Nat)) (i : Int) (x : Ending) (w' : World) : Prop :=
 Below w.heap.size w w' ∧ ((¬ (0 ≤ i ∧ i < l.length) ∧ x = .returned (.tuple #[.agg #[.slice none 0 0, .int .i64 0, .slice none 0 0, .int .i64 0, .int .i64 0, .int .i64 0, .slice none 0 0], .int .i64 1])) ∨
  (0 ≤ i ∧ ∃ kv e, l[i.toNat]? = some kv ∧ x = .returned (.tuple #[.agg (EntD.cells e), .int .i64 0]) ∧ EntD.Ok w' e ∧ checkS e = 0 ∧ keyL e = kv.1 ∧ e.val = kv.2 ∧ Own w' w.heap.size e.vr e.row.length e.row ∧ Own w' w.heap.size e.vq e.qual.length e.qual ∧ Own w' w.heap.size e.vv e.val.length e.val))
theorem two_at (W : World) (i : Int) : ∃ X, X = (W.alloc (.cells #[.int .i64 i] 3)).alloc (.cells #[.slice none 0 0, .int .i64 0, .slice none 0 0, .int .i64 0, .int .i64 0, .int .i64 0, .slice none 0 0] 40) ∧ Below W.heap.size W X ∧ X.heap.size = W.heap.size + 2 ∧ Cell1B X W.heap.size (.int .i64 i) 3 ∧ EBox X (W.heap.size + 1) ⟨.slice none 0 0, 0, .slice none 0 0, 0, 0, 0, .slice none 0 0, [], [], []⟩ := by
 have A1 := (Below.refl W.heap.size W).alloc (Nat.le_refl _) (.cells #[.int .i64 i] 3)
 refine ⟨_, rfl, A1.alloc A1.size _, by simp, ?_, ?_⟩
 ·exact Cell1B.fb (O := fun _ => False) (heap_alloc_new W _) (Fb.of_below ((Below.refl _ _).alloc (Nat.le_refl _) _)) id
 ·have := EBox.new (W.alloc (.cells #[.int .i64 i] 3)) ⟨.slice none 0 0, 0, .slice none 0 0, 0, 0, 0, .slice none 0 0, [], [], []⟩
  simpa [EntD.cells] using this
set_option maxRecDepth 100000 in
set_option maxHeartbeats 4000000 in
theorem at_out {W : World} {g r n b ne ce np cp B : Nat} {E P : List Nat} {l : List (List Nat × List Nat)} (hL : Blad r l E P) (hk : Lk W B g r l.length b ne ce E P np cp) (i : Int) (hi : ¬ (0 ≤ i ∧ i < l.length)) :
  Calls Tryz.prog 34 #[.pointer (some ⟨g, 0, none⟩), .int .i64 i] W fun x w' => AtP W l i x w' := by
 obtain ⟨X, hX, bX, sX, cX, eX⟩ := two_at W i
 obtain ⟨q0, q1, q2, q3⟩ := (hk.box.later bX).cells
 have d0 := cX.cell
 obtain ⟨g0, g1, g2, g3, g4, g5, g6⟩ := eX.cells7
 obtain ⟨gf0, gf1, gf2, gf3, gf4, gf5, gf6⟩ := EBox.fz7b eX
 simp only at g0 g1 g2 g3 g4 g5 g6
 have HX := Lib.hid hX
 obtain ⟨N, hN⟩ : ∃ N, N = l.length := ⟨_, rfl⟩
 rw [← hN] at q1 hi
 have HEnd : Hid (∀ Y, Below W.heap.size W Y → AtP W l i (.returned (.tuple #[.agg #[.slice none 0 0, .int .i64 0, .slice none 0 0, .int .i64 0, .int .i64 0, .int .i64 0, .slice none 0 0], .int .i64 1])) Y) := fun Y hY => ⟨hY, .inl ⟨by rw [← hN]; exact hi, rfl⟩⟩
 clear hk hX cX hL hN g0 g1 g2 g3 g4 g5 g6 gf0 gf1 gf2 gf3 gf4 gf5 gf6
 by_cases h0 : i < 0
 ·go_enter Tryz.func34, Tryz.ntmps34
  go_upto_region 1 with fail
  rw [← HX.out]
  clear HX
  go_quiet (fail)
  have bY := below_drewN (Below.refl X.heap.size X) nq
  have eY := eX.later bY
  have bWY := bX.trans (bY.mono bX.size)
  generalize X.drewN nq = Y at *
  obtain ⟨g0, g1, g2, g3, g4, g5, g6⟩ := eY.cells7
  obtain ⟨gf0, gf1, gf2, gf3, gf4, gf5, gf6⟩ := EBox.fz7b eY
  simp only at g0 g1 g2 g3 g4 g5 g6
  have bx := filled_box eY ⟨.slice none 0 0, 0, .slice none 0 0, 0, 0, 0, .slice none 0 0, [], [], []⟩
  have ap := filled_apart Y (W.heap.size + 1) ⟨.slice none 0 0, 0, .slice none 0 0, 0, 0, 0, .slice none 0 0, [], [], []⟩
  have HZ := Lib.hid (And.intro bx (bWY.trans (ap.below (by omega) bWY.size)))
  simp only [filled] at HZ
  clear bx ap eY bY bWY eX
  go_wp2
  have HH := HZ.out
  clear HZ
  generalize (((((((Y.setCell ⟨W.heap.size + 1, 0, none⟩ (.slice none 0 0)).setCell ⟨W.heap.size + 1, 1, none⟩ (.int .i64 0)).setCell ⟨W.heap.size + 1, 2, none⟩ (.slice none 0 0)).setCell ⟨W.heap.size + 1, 3, none⟩ (.int .i64 0)).setCell ⟨W.heap.size + 1, 4, none⟩ (.int .i64 0)).setCell ⟨W.heap.size + 1, 5, none⟩ (.int .i64 0)).setCell ⟨W.heap.size + 1, 6, none⟩ (.slice none 0 0)) = WZ at *
  obtain ⟨fb, bw⟩ := HH
  obtain ⟨t0, t1, t2, t3, t4, t5, t6⟩ := fb.cells7
  simp only at t0 t1 t2 t3 t4 t5 t6
  (try simp only [Exit.inBlock, Exit.then])
  refine bodyPost_ret (v := .tuple #[.agg #[.slice none 0 0, .int .i64 0, .slice none 0 0, .int .i64 0, .int .i64 0, .int .i64 0, .slice none 0 0], .int .i64 1]) ?hres rfl ?_
  case hres => simp [results, Tryz.results34, go_sem, t0, t1, t2, t3, t4, t5, t6]
  exact HEnd.out _ bw
 ·have h1 : ¬ i < (N : Int) := fun k => hi ⟨by omega, k⟩
  have h2 : (N : Int) ≤ i := by omega
  go_enter Tryz.func34, Tryz.ntmps34
  go_upto_region 1 with fail
  rw [← HX.out]
  clear HX
  go_quiet (fail)
  have bY := below_drewN (Below.refl X.heap.size X) nq
  have eY := eX.later bY
  have bWY := bX.trans (bY.mono bX.size)
  generalize X.drewN nq = Y at *
  obtain ⟨g0, g1, g2, g3, g4, g5, g6⟩ := eY.cells7
  obtain ⟨gf0, gf1, gf2, gf3, gf4, gf5, gf6⟩ := EBox.fz7b eY
  simp only at g0 g1 g2 g3 g4 g5 g6
  have bx := filled_box eY ⟨.slice none 0 0, 0, .slice none 0 0, 0, 0, 0, .slice none 0 0, [], [], []⟩
  have ap := filled_apart Y (W.heap.size + 1) ⟨.slice none 0 0, 0, .slice none 0 0, 0, 0, 0, .slice none 0 0, [], [], []⟩
  have HZ := Lib.hid (And.intro bx (bWY.trans (ap.below (by omega) bWY.size)))
  simp only [filled] at HZ
  clear bx ap eY bY bWY eX
  go_wp2
  have HH := HZ.out
  clear HZ
  generalize (((((((Y.setCell ⟨W.heap.size + 1, 0, none⟩ (.slice none 0 0)).setCell ⟨W.heap.size + 1, 1, none⟩ (.int .i64 0)).setCell ⟨W.heap.size + 1, 2, none⟩ (.slice none 0 0)).setCell ⟨W.heap.size + 1, 3, none⟩ (.int .i64 0)).setCell ⟨W.heap.size + 1, 4, none⟩ (.int .i64 0)).setCell ⟨W.heap.size + 1, 5, none⟩ (.int .i64 0)).setCell ⟨W.heap.size + 1, 6, none⟩ (.slice none 0 0)) = WZ at *
  obtain ⟨fb, bw⟩ := HH
  obtain ⟨t0, t1, t2, t3, t4, t5, t6⟩ := fb.cells7
  simp only at t0 t1 t2 t3 t4 t5 t6
  (try simp only [Exit.inBlock, Exit.then])
  refine bodyPost_ret (v := .tuple #[.agg #[.slice none 0 0, .int .i64 0, .slice none 0 0, .int .i64 0, .int .i64 0, .int .i64 0, .slice none 0 0], .int .i64 1]) ?hres rfl ?_
  case hres => simp [results, Tryz.results34, go_sem, t0, t1, t2, t3, t4, t5, t6]
  exact HEnd.out _ bw
end Go.Proofs.YtchebhafabhabaaGreatDoor

namespace Go.Proofs.YtchebhafabhabaaGreatDoor
open Go.RowKit Go.Shelf
set_option linter.unusedVariables false

theorem Cell1B.later {w w' : World} {g t : Nat} {v : Value} (h : Cell1B w g v t) (b : Below w.heap.size w w') : Cell1B w' g v t := h.fb (O := fun _ => False) (Fb.of_below b) id
set_option maxRecDepth 100000 in
set_option maxHeartbeats 4000000 in
theorem at_in {W : World} {g r b ne ce np cp B : Nat} {E P : List Nat} {l : List (List Nat × List Nat)} (hL : Blad r l E P) (hk : Lk W B g r l.length b ne ce E P np cp) (i : Nat) (hi : i < l.length) :
  Calls Tryz.prog 34 #[.pointer (some ⟨g, 0, none⟩), .int .i64 (i : Int)] W fun x w' => AtP W l (i : Int) x w' := by
 obtain ⟨X, hX, bX, sX, cX, eX⟩ := two_at W (i : Int)
 have HX := Lib.hid hX
 obtain ⟨N, hN⟩ : ∃ N, N = l.length := ⟨_, rfl⟩
 have hN32 : N < 4294967296 := by have := hL.few; have := hL.size; omega
 obtain ⟨q0, q1, q2, q3⟩ := (hk.box.later bX).cells
 rw [← hN] at q1 hi
 have d0 := cX.cell
 have hr1 := hL.r1
 have hr16 := hL.r16
 obtain ⟨q, hq⟩ : ∃ q, i / r = q := ⟨_, rfl⟩
 have hqi : (i : Int) / (r : Int) = (q : Int) := by rw [← hq]; exact (Int.natCast_ediv _ _).symm
 have hqr : q * r ≤ i := by rw [← hq]; exact Nat.div_mul_le_self _ _
 have hqle : q ≤ i := by rw [← hq]; exact Nat.div_le_self _ _
 obtain ⟨m, hm⟩ : ∃ m, q * r = m := ⟨_, rfl⟩
 have hmi : (q : Int) * (r : Int) = (m : Int) := by rw [← hm]; exact (Int.natCast_mul _ _).symm
 rw [hm] at hqr
 have HM := Lib.hid hm
 clear hm
 have hi0 : ¬ (i : Int) < 0 := by omega
 have hiN : (i : Int) < (N : Int) := by omega
 have hiN2 : ¬ (N : Int) ≤ (i : Int) := by omega
 have hr0 : ¬ (r : Int) = 0 := by omega
 have HL := Lib.hid hL
 have HK := Lib.hid hk
 have HN := Lib.hid hN
 have HBX := Lib.hid bX
 have HSX := Lib.hid sX
 have HCX := Lib.hid cX
 have HEX := Lib.hid eX
 have HQ := Lib.hid hq
 clear hL hk hN bX sX cX eX hX hq
 go_enter Tryz.func34, Tryz.ntmps34
 go_upto_region 1 with fail
 rw [← HX.out]
 clear HX
 go_quiet (fail)
 have bY := below_drewN (Below.refl X.heap.size X) nq
 have HBY := Lib.hid bY
 generalize X.drewN nq = Y at *
 have HSY := Lib.hid (show X.heap.size ≤ Y.heap.size from bY.size)
 have d1 : Y.cell? ⟨W.heap.size, 0, none⟩ = some (.int .i64 (i : Int)) := (HCX.out.fb (O := fun _ => False) (Fb.of_below bY) id).cell
 obtain ⟨p0, p1, p2, p3⟩ := ((HK.out.box.later HBX.out).later bY).cells
 clear bY q0 q1 q2 q3 d0
 go_upto_region 4 with fail
 have hE2 : EBox (Y.alloc (.cells #[.slice none 0 0, .int .i64 0, .slice none 0 0, .int .i64 0, .int .i64 0, .int .i64 0, .slice none 0 0] 40)) Y.heap.size ⟨.slice none 0 0, 0, .slice none 0 0, 0, 0, 0, .slice none 0 0, [], [], []⟩ := EBox.new Y ⟨.slice none 0 0, 0, .slice none 0 0, 0, 0, 0, .slice none 0 0, [], [], []⟩
 have b2 : Below Y.heap.size Y (Y.alloc (.cells #[.slice none 0 0, .int .i64 0, .slice none 0 0, .int .i64 0, .int .i64 0, .int .i64 0, .slice none 0 0] 40)) := (Below.refl _ _).alloc (Nat.le_refl _) _
 have s2 : (Y.alloc (.cells #[.slice none 0 0, .int .i64 0, .slice none 0 0, .int .i64 0, .int .i64 0, .int .i64 0, .slice none 0 0] 40)).heap.size = Y.heap.size + 1 := by simp
 obtain ⟨Y2, hY2⟩ : ∃ Y2, Y2 = Y.alloc (.cells #[.slice none 0 0, .int .i64 0, .slice none 0 0, .int .i64 0, .int .i64 0, .int .i64 0, .slice none 0 0] 40) := ⟨_, rfl⟩
 rw [← hY2] at hE2 b2 s2 ⊢
 have hd2 : Y2.cell? ⟨W.heap.size, 0, none⟩ = some (.int .i64 (i : Int)) := by
  rw [b2.cell (p := ⟨W.heap.size, 0, none⟩) (World.block_lt_of_cell? Y _ d1)]; exact d1
 obtain ⟨q0, q1, q2, q3⟩ := (((HK.out.box.later HBX.out).later HBY.out).later b2).cells
 have HE2 := Lib.hid hE2
 have HB2 := Lib.hid b2
 have HS2 := Lib.hid s2
 clear hE2 b2 s2 hY2 p0 p1 p2 p3 d1
 go_quiet (fail)
 have bV := below_drewN (Below.refl Y2.heap.size Y2) nq
 generalize Y2.drewN nq = V at *
 have hWV : Below W.heap.size W V := ((HBX.out.trans (HBY.out.mono HBX.out.size)).trans (HB2.out.mono (Nat.le_trans HBX.out.size HBY.out.size))).trans (bV.mono (by have := HBX.out.size; have := HBY.out.size; have := HB2.out.size; omega))
 have hk3 := HK.out.box.later hWV
 have hEV := HE2.out.later bV
 have hVs : Y2.heap.size ≤ V.heap.size := bV.size
 have hCV : Cell1B V W.heap.size (.int .i64 (i : Int)) 3 := ((HCX.out.later HBY.out).later HB2.out).later bV
 have hRV := (HEX.out.later HBY.out).later HB2.out |>.later bV
 have HK3 := Lib.hid hk3
 have HEV := Lib.hid hEV
 have HCV := Lib.hid hCV
 have HRV := Lib.hid hRV
 have HWV := Lib.hid hWV
 have HVS := Lib.hid hVs
 clear q0 q1 q2 q3 hd2 bV hWV hk3 hEV hCV hRV hVs
 go_upto_region 5 with fail
 have BD : Below V.heap.size V V.drew := (Below.refl _ _).drew
 have HgY : Hid (g ≠ Y.heap.size) := by
  have h1 : g < W.heap.size := (Array.getElem?_eq_some_iff.1 HK.out.box).1
  have h2 := HSY.out
  have h3 := HSX.out
  unfold Hid
  omega
 refine wp_region_noPanic ?_
 refine wp_region_held_drew (S := fun wx => Fb V wx (fun k => k = Y.heap.size)) (by kernel_rfl) (Fb.of_below BD) (fun hHeld => ?_)
 refine wpAnyH_take (i := 0) (oi := { dst := some 25, op := _, type := _, pos := _, after := _, guard := _ }) (v := .pointer (some ⟨g, 0, none⟩)) rfl (by kernel_rfl) (by kernel_rfl) (by kernel_rfl) (fun _ _ _ h => h) (Or.inl ⟨by kernel_rfl, fun wy hy => by (go_simp; first | done | omega)⟩) (by assumption) ?_
 try simp only [Act.put, List.setIfInBounds_toArray, List.set_cons_zero, List.set_cons_succ]
 refine wpAnyH_take (i := 1) (oi := { dst := some 26, op := _, type := _, pos := _, after := _, guard := _ }) (v := .int .i64 (q : Int)) rfl (by kernel_rfl) (by kernel_rfl) (by kernel_rfl) (fun _ _ _ h => h) (Or.inl ⟨by kernel_rfl, fun wy hy => by (go_simp; first | done | omega)⟩) (by assumption) ?_
 try simp only [Act.put, List.setIfInBounds_toArray, List.set_cons_zero, List.set_cons_succ]
 refine wpAnyH_take (i := 2) (oi := { dst := some 27, op := _, type := _, pos := _, after := _, guard := _ }) (v := .pointer (some ⟨g, 0, none⟩)) rfl (by kernel_rfl) (by kernel_rfl) (by kernel_rfl) (fun _ _ _ h => h) (Or.inl ⟨by kernel_rfl, fun wy hy => by (go_simp; first | done | omega)⟩) (by assumption) ?_
 try simp only [Act.put, List.setIfInBounds_toArray, List.set_cons_zero, List.set_cons_succ]
 refine wpAnyH_take (i := 3) (oi := { dst := some 28, op := _, type := _, pos := _, after := _, guard := _ }) (v := .pointer (some ⟨g, 0, none⟩)) rfl (by kernel_rfl) (by kernel_rfl) (by kernel_rfl) (fun _ _ _ h => h) (Or.inl ⟨by kernel_rfl, fun wy hy => by (go_simp; first | done | omega)⟩) (by assumption) ?_
 try simp only [Act.put, List.setIfInBounds_toArray, List.set_cons_zero, List.set_cons_succ]
 refine wpAnyH_take (i := 4) (oi := { dst := some 29, op := _, type := _, pos := _, after := _, guard := _ }) (v := .pointer (some ⟨g, 0, none⟩)) rfl (by kernel_rfl) (by kernel_rfl) (by kernel_rfl) (fun _ _ _ h => h) (Or.inl ⟨by kernel_rfl, fun wy hy => by (go_simp; first | done | omega)⟩) (by assumption) ?_
 try simp only [Act.put, List.setIfInBounds_toArray, List.set_cons_zero, List.set_cons_succ]
 refine wpAnyH_take (i := 5) (oi := { dst := some 30, op := _, type := _, pos := _, after := _, guard := _ }) (v := .int .i64 (r : Int)) rfl (by kernel_rfl) (by kernel_rfl) (by kernel_rfl) (fun _ _ _ h => h) (Or.inl ⟨by kernel_rfl, fun wy hy => by (obtain ⟨q0, q1, q2, q3⟩ := (HK3.out.fb hy HgY.out).cells; go_simp; done)⟩) (by assumption) ?_
 try simp only [Act.put, List.setIfInBounds_toArray, List.set_cons_zero, List.set_cons_succ]
 refine wpAnyH_take (i := 6) (oi := { dst := some 31, op := _, type := _, pos := _, after := _, guard := _ }) (v := .int .i64 (m : Int)) rfl (by kernel_rfl) (by kernel_rfl) (by kernel_rfl) (fun _ _ _ h => h) (Or.inl ⟨by kernel_rfl, fun wy hy => by (go_simp; first | done | exact IntWalk.i64_in _ ⟨by omega, by omega⟩)⟩) (by assumption) ?_
 try simp only [Act.put, List.setIfInBounds_toArray, List.set_cons_zero, List.set_cons_succ]
 refine wpAnyH_take (i := 7) (oi := { dst := some 32, op := _, type := _, pos := _, after := _, guard := _ }) (v := .pointer (some ⟨g, 0, none⟩)) rfl (by kernel_rfl) (by kernel_rfl) (by kernel_rfl) (fun _ _ _ h => h) (Or.inl ⟨by kernel_rfl, fun wy hy => by (go_simp; first | done | omega)⟩) (by assumption) ?_
 try simp only [Act.put, List.setIfInBounds_toArray, List.set_cons_zero, List.set_cons_succ]
 refine wpAnyH_take (i := 8) (oi := { dst := some 33, op := _, type := _, pos := _, after := _, guard := _ }) (v := .int .i64 (q : Int)) rfl (by kernel_rfl) (by kernel_rfl) (by kernel_rfl) (fun _ _ _ h => h) (Or.inl ⟨by kernel_rfl, fun wy hy => by (go_simp; first | done | omega)⟩) (by assumption) ?_
 try simp only [Act.put, List.setIfInBounds_toArray, List.set_cons_zero, List.set_cons_succ]
 refine wpAnyH_take (i := 10) (oi := { dst := some 35, op := _, type := _, pos := _, after := _, guard := _ }) (v := .func (.func 77) #[] #[.pointer (some ⟨W.heap.size, 0, none⟩), .pointer (some ⟨Y.heap.size, 0, none⟩)]) rfl (by kernel_rfl) (by kernel_rfl) (by kernel_rfl) (fun _ _ _ h => h) (Or.inl ⟨by kernel_rfl, fun wy hy => by (go_simp; first | done | omega)⟩) (by assumption) ?_
 try simp only [Act.put, List.setIfInBounds_toArray, List.set_cons_zero, List.set_cons_succ]
 refine wpAnyH_ready (rs := [9]) (by kernel_rfl) (by simp) ?_
 refine AllReadyH.cons (o := { dst := some 34, op := _, type := _, pos := _, after := _, guard := _ }) rfl (fun KK hK => ?_) AllReadyH.nil
 go_simp
 go_at_call 70
 have hqP : q * 4 + 4 ≤ P.length := by
  have e := HL.out.psl
  rw [e]
  have h1 : q + 1 ≤ (l.length + r - 1) / r := by
   rw [Nat.le_div_iff_mul_le (by omega), Nat.add_mul, HM.out]
   have := HN.out
   omega
  omega
 have hPl : P.length ≤ 131072 := by have := HL.out.size; omega
 have hVW := HWV.out
 refine (place_any ((HK3.out.later BD)) ((HK.out.pls.later hVW).later BD) q hqP hPl).mono ?_
 rintro e1 V1 ⟨rfl, hb1⟩
 have bV1 : Below V.heap.size V V1 := BD.trans (hb1.mono BD.size)
 obtain ⟨pq, hpq⟩ : ∃ pq, wordAt P q = pq := ⟨_, rfl⟩
 rw [hpq]
 obtain ⟨wf1, wf2⟩ := walk_from (AtA i) HL.out q (by rw [HM.out]; have := HN.out; omega) none
 rw [hpq] at wf1 wf2
 rw [HM.out, ← HN.out] at wf2
 have hVs : Y.heap.size + 1 ≤ V.heap.size := by have := HVS.out; have := HS2.out; omega
 have hWY : W.heap.size + 2 ≤ Y.heap.size := by have := HSY.out; have := HSX.out; omega
 have hI : AtI W.heap.size Y.heap.size i V1.heap.size (none, ⟨.slice none 0 0, 0, .slice none 0 0, 0, 0, 0, .slice none 0 0, [], [], []⟩) V1 := ⟨HCV.out.later bV1, HEV.out.later bV1, ownNil _ _, ownNil _ _, ownNil _ _, ⟨(fun x hx => by cases hx), (fun x hx => by cases hx), (fun x hx => by cases hx)⟩, ⟨by simp, by simp, by simp⟩, (fun kv h => by cases h), by have := bV1.size; omega, Nat.le_refl _⟩
 have hgW : g < W.heap.size := (Array.getElem?_eq_some_iff.1 HK.out.box).1
 have hbW : b < W.heap.size := by
  have := rd_cell HK.out.pls 0 (by rw [(rd_lens HK.out.pls).1]; omega)
  exact World.block_lt_of_cell? W _ this.1
 have hng : ∀ k, k < W.heap.size → ¬ AtO Y.heap.size ((none : Option (List Nat × List Nat)), (⟨.slice none 0 0, 0, .slice none 0 0, 0, 0, 0, .slice none 0 0, [], [], []⟩ : EntD)) k := fun k hk h => by
  rcases h with h | h | h | h
  ·omega
  ·cases h
  ·cases h
  ·cases h
 have hWV1 : Below W.heap.size W V1 := hVW.trans (bV1.mono (by omega))
 have HWk := Lib.hid (walk_any (at1_asker (gi := W.heap.size) (ge := Y.heap.size) (i := i) (N := N) (B0 := V1.heap.size) (by omega) hN32) (st := (none, ⟨.slice none 0 0, 0, .slice none 0 0, 0, 0, 0, .slice none 0 0, [], [], []⟩)) m pq (by have := HK.out.box.later hWV1; rw [← HN.out] at this; exact this) (HK.out.ents.later hWV1) (Nat.le_refl _) hI (hng g hgW) (hng b hbW) (by have := hWV1.size; omega) (by have := hWV1.size; omega) (by have := HL.out.size; omega) hN32 (by omega) wf1)
 rw [wf2] at HWk
 obtain ⟨kv, hkv⟩ : ∃ kv, l[i]? = some kv := ⟨_, List.getElem?_eq_getElem (by rw [← HN.out]; exact hi)⟩
 have hans := ask_at i E.length r (l.drop m) (foldB r Bs.zero (l.take m)) kv (by rw [foldB_n]; simp [Bs.zero]; omega) (by rw [foldB_n, List.getElem?_drop]; simp only [Bs.zero, List.length_take]; rw [← hkv]; congr 1; have := HN.out; omega)
 obtain ⟨res, hres⟩ : ∃ res, askB (AtA i) E.length (itemsB r (foldB r Bs.zero (l.take m)) (l.drop m)) none = res := ⟨_, rfl⟩
 rw [hres] at HWk hans
 obtain ⟨pz, az, sz⟩ := res
 simp only at hans
 subst hans
 have HKV := Lib.hid hkv
 have HV1 := Lib.hid bV1
 have HWV1 := Lib.hid hWV1
 have HY := Lib.hid (And.intro hVs hWY)
 clear hb1 BD wf1 wf2 hI hng hWV1 hres hkv hpq hqP hPl hVW hgW hbW hVs hWY
 go_wp2_with fail
 refine hK.out _ _ (Fb.of_below bV1) (fun hHeld => ?_)
 clear hK
 try simp only [Act.put, List.setIfInBounds_toArray, List.set_cons_zero, List.set_cons_succ]
 refine wpAnyH_ready (rs := [11]) (by kernel_rfl) (by simp) ?_
 refine AllReadyH.cons (o := { dst := some 36, op := _, type := _, pos := _, after := _, guard := _ }) rfl (fun KK hK => ?_) AllReadyH.nil
 go_simp
 go_at_call 74
 refine HWk.out.mono ?_
 rintro e1 V2 ⟨rfl, e, hI2, f2, -⟩
 have hV2 : Fb V V2 (fun k => k = Y.heap.size) := (Fb.of_below HV1.out).trans (f2.mono (fun k _ h => by
  rcases h with h | h | h | h
  ·exact h
  ·cases h
  ·cases h
  ·cases h))
 have hW2 : Below W.heap.size W V2 := ⟨hV2.os.trans HWV.out.os, hV2.tape.trans HWV.out.tape, hV2.output.trans HWV.out.output, Nat.le_trans HWV.out.size hV2.size, fun k hk => (hV2.block k (Nat.lt_of_lt_of_le hk HWV.out.size) (by have := HY.out; omega)).trans (HWV.out.block k hk)⟩
 have hR2 : EBox V2 (W.heap.size + 1) ⟨.slice none 0 0, 0, .slice none 0 0, 0, 0, 0, .slice none 0 0, [], [], []⟩ := HRV.out.fb hV2 (by have := HY.out; omega)
 have HI2 := Lib.hid hI2
 have HW2 := Lib.hid hW2
 have HR2 := Lib.hid hR2
 clear hI2 f2 hW2 hR2 HWk
 go_wp2_with fail
 refine hK.out _ _ hV2 (fun hHeld => ?_)
 clear hK
 try simp only [Act.put, List.setIfInBounds_toArray, List.set_cons_zero, List.set_cons_succ]
 refine wpAnyH_done (by kernel_rfl) (NoPanic.normal ?_) _
 clear hHeld hV2
 go_simp
 go_step
 obtain ⟨e0, e1, e2, e3, e4, e5, e6⟩ := HI2.out.e.cells7
 obtain ⟨g0, g1, g2, g3, g4, g5, g6⟩ := HR2.out.cells7
 obtain ⟨gf0, gf1, gf2, gf3, gf4, gf5, gf6⟩ := EBox.fz7b HR2.out
 simp only at e0 e1 e2 e3 e4 e5 e6 g0 g1 g2 g3 g4 g5 g6
 obtain ⟨ve, fam, vq, ts, seq, kind, vv, row, qual, val⟩ := e
 have y1 := HI2.out.o1
 have y2 := HI2.out.o2
 have y3 := HI2.out.o3
 simp only at y1 y2 y3 e0 e1 e2 e3 e4 e5 e6
 obtain ⟨ar, cr, rfl⟩ := own_form y1.2
 obtain ⟨aq, cq, rfl⟩ := own_form y2.2
 obtain ⟨aw, cw, rfl⟩ := own_form y3.2
 obtain ⟨mr, hmr⟩ : ∃ mr, row.length = mr := ⟨_, rfl⟩
 obtain ⟨mq, hmq⟩ : ∃ mq, qual.length = mq := ⟨_, rfl⟩
 obtain ⟨mw, hmw⟩ : ∃ mw, val.length = mw := ⟨_, rfl⟩
 rw [hmr] at e0
 rw [hmq] at e2
 rw [hmw] at e6
 have bx := filled_box HR2.out (⟨.slice ar mr cr, fam, .slice aq mq cq, ts, seq, kind, .slice aw mw cw, row, qual, val⟩ : EntD)
 have ap := filled_apart V2 (W.heap.size + 1) (⟨.slice ar mr cr, fam, .slice aq mq cq, ts, seq, kind, .slice aw mw cw, row, qual, val⟩ : EntD)
 have hfin : AtP W l (i : Int) (.returned (.tuple #[.agg #[.slice ar mr cr, .int .i64 fam, .slice aq mq cq, .int .i64 ts, .int .i64 seq, .int .i64 kind, .slice aw mw cw], .int .i64 0])) (filled V2 (W.heap.size + 1) (⟨.slice ar mr cr, fam, .slice aq mq cq, ts, seq, kind, .slice aw mw cw, row, qual, val⟩ : EntD)) := by
  have hok := HL.out.ok kv (List.mem_of_getElem? HKV.out)
  have hb := HI2.out.by_
  have hln := HI2.out.len
  obtain ⟨fk, fc⟩ := HI2.out.fact kv rfl
  simp only at hb hln fk fc
  rw [hmr] at y1 fk fc
  rw [hmq] at y2 fk fc
  rw [hmw] at y3 fk fc
  have hV1W : W.heap.size ≤ V1.heap.size := HWV1.out.size
  have z1 := (y1.mono hV1W).apartE HR2.out ap
  have z2 := (y2.mono hV1W).apartE HR2.out ap
  have z3 := (y3.mono hV1W).apartE HR2.out ap
  refine ⟨HW2.out.trans (ap.below (by omega) HW2.out.size), .inr ⟨by omega, kv, ⟨.slice ar mr cr, fam, .slice aq mq cq, ts, seq, kind, .slice aw mw cw, row, qual, val⟩, by rw [Int.toNat_natCast]; exact HKV.out, rfl, ⟨z1.rd hb.1 (by omega), z2.rd hb.2.1 (by omega), z3.rd hb.2.2 (by omega)⟩, fc.2 hok, (fk hok.1).1, (fk hok.1).2, ?_, ?_, ?_⟩⟩
  ·simp only; rw [hmr]; exact z1
  ·simp only; rw [hmq]; exact z2
  ·simp only; rw [hmw]; exact z3
 have HFin := Lib.hid (And.intro bx hfin)
 simp only [filled] at HFin
 clear bx ap hfin y1 y2 y3 HI2 HR2 hmr hmq hmw
 go_wp2
 have HH := HFin.out
 clear HFin
 generalize (((((((V2.setCell ⟨W.heap.size + 1, 0, none⟩ (.slice ar mr cr)).setCell ⟨W.heap.size + 1, 1, none⟩ (.int .i64 fam)).setCell ⟨W.heap.size + 1, 2, none⟩ (.slice aq mq cq)).setCell ⟨W.heap.size + 1, 3, none⟩ (.int .i64 ts)).setCell ⟨W.heap.size + 1, 4, none⟩ (.int .i64 seq)).setCell ⟨W.heap.size + 1, 5, none⟩ (.int .i64 kind)).setCell ⟨W.heap.size + 1, 6, none⟩ (.slice aw mw cw)) = WZ at *
 obtain ⟨fb, hfin⟩ := HH
 obtain ⟨t0, t1, t2, t3, t4, t5, t6⟩ := fb.cells7
 simp only at t0 t1 t2 t3 t4 t5 t6
 (try simp only [Exit.inBlock, Exit.then])
 refine bodyPost_ret (v := .tuple #[.agg #[.slice ar mr cr, .int .i64 fam, .slice aq mq cq, .int .i64 ts, .int .i64 seq, .int .i64 kind, .slice aw mw cw], .int .i64 0]) ?hres rfl ?_
 case hres => simp [results, Tryz.results34, go_sem, t0, t1, t2, t3, t4, t5, t6]
 exact hfin
theorem atB_any {W : World} {g r b ne ce np cp B : Nat} {E P : List Nat} {l : List (List Nat × List Nat)} (hL : Blad r l E P) (hk : Lk W B g r l.length b ne ce E P np cp) (i : Int) :
  Calls Tryz.prog 34 #[.pointer (some ⟨g, 0, none⟩), .int .i64 i] W fun x w' => AtP W l i x w' := by
 by_cases h : 0 ≤ i ∧ i < l.length
 ·obtain ⟨k, rfl⟩ : ∃ k : Nat, i = (k : Int) := ⟨i.toNat, by omega⟩
  exact at_in hL hk k (by omega)
 ·exact at_out (n := 0) hL hk i h
end Go.Proofs.YtchebhafabhabaaGreatDoor

namespace Go.Proofs.YtchebhafabhabaaGreatDoor
open Go.RowKit
set_option linter.unusedVariables false

theorem bytesL_bys {l : List Nat} (h : Bys l) (hl : l.length < 18446744073709551616) : Bys (bytesL l) := Bys.app (uintL_bys _ hl) h
def packL (e : EntD) : List Nat := bytesL (keyL e) ++ bytesL e.val

def EntD.Same (a b : EntD) : Prop := a.fam = b.fam ∧ a.ts = b.ts ∧ a.seq = b.seq ∧ a.kind = b.kind ∧ a.row = b.row ∧ a.qual = b.qual ∧ a.val = b.val
theorem EntD.Same.symm {a b : EntD} (h : EntD.Same a b) : EntD.Same b a := ⟨h.1.symm, h.2.1.symm, h.2.2.1.symm, h.2.2.2.1.symm, h.2.2.2.2.1.symm, h.2.2.2.2.2.1.symm, h.2.2.2.2.2.2.symm⟩

end Go.Proofs.YtchebhafabhabaaGreatDoor

namespace Go.Proofs.YtchebhafabhabaaGreatDoor
open Go.RowKit
set_option linter.unusedVariables false

def Tri (a b c : Int) : Prop := (a ≤ 0 ∧ b ≤ 0 → c ≤ 0) ∧ (0 ≤ a ∧ 0 ≤ b → 0 ≤ c) ∧ (a ≤ 0 ∧ b ≤ 0 ∧ c = 0 → a = 0 ∧ b = 0) ∧ (0 ≤ a ∧ 0 ≤ b ∧ c = 0 → a = 0 ∧ b = 0) ∧ (a = 0 → c = b) ∧ (b = 0 → c = a)
theorem tri_cmpI (x y z : Int) : Tri (cmpI x y) (cmpI y z) (cmpI x z) := by
 unfold Tri cmpI
 repeat' split
 all_goals omega
theorem tri_lex {a b c a' b' c' : Int} (h : Tri a b c) (k : Tri a' b' c') : Tri (if a = 0 then a' else a) (if b = 0 then b' else b) (if c = 0 then c' else c) := by
 unfold Tri at *
 obtain ⟨h1, h2, h3, h4, h5, h6⟩ := h
 by_cases ha : a = 0
 ·by_cases hb : b = 0
  ·have hc : c = 0 := by rw [h5 ha]; exact hb
   rw [if_pos ha, if_pos hb, if_pos hc]; exact k
  ·have hc : c = b := h5 ha
   have hc0 : ¬ c = 0 := by omega
   rw [if_pos ha, if_neg hb, if_neg hc0]
   refine ⟨?_, ?_, ?_, ?_, ?_, ?_⟩ <;> omega
 ·by_cases hb : b = 0
  ·have hc : c = a := h6 hb
   have hc0 : ¬ c = 0 := by omega
   rw [if_neg ha, if_pos hb, if_neg hc0]
   refine ⟨?_, ?_, ?_, ?_, ?_, ?_⟩ <;> omega
  ·rw [if_neg ha, if_neg hb]
   by_cases hc : c = 0
   ·rw [if_pos hc]
    have e1 : ¬ (a ≤ 0 ∧ b ≤ 0) := fun e => ha (h3 ⟨e.1, e.2, hc⟩).1
    have e2 : ¬ (0 ≤ a ∧ 0 ≤ b) := fun e => ha (h4 ⟨e.1, e.2, hc⟩).1
    refine ⟨?_, ?_, ?_, ?_, ?_, ?_⟩ <;> omega
   ·rw [if_neg hc]; exact ⟨h1, h2, h3, h4, h5, h6⟩
theorem tri_zero : Tri 0 0 0 := by unfold Tri; omega
theorem ordC_cons (x y : Nat) (a b : List Nat) : ordC (x :: a) (y :: b) = if cmpI (x : Int) (y : Int) = 0 then ordC a b else cmpI (x : Int) (y : Int) := by
 have e : ordC (x :: a) (y :: b) = if x < y then -1 else if y < x then 1 else ordC a b := rfl
 rw [e]
 unfold cmpI
 by_cases h1 : x < y
 ·simp [h1]
 ·by_cases h2 : y < x
  ·have : ¬ (x : Int) < y := by omega
   simp [h1, h2]
  ·simp [h1, h2]
theorem tri_ordC : ∀ (x y z : List Nat), Tri (ordC x y) (ordC y z) (ordC x z)
 | [], [], [] => by simp only [ordC]; exact tri_zero
 | [], [], _ :: _ => by simp only [ordC]; unfold Tri; omega
 | [], _ :: _, [] => by simp only [ordC]; unfold Tri; omega
 | [], y :: b, z :: c => by
  have h : ordC [] (y :: b) = -1 := rfl
  have h2 : ordC [] (z :: c) = -1 := rfl
  rw [h, h2]; unfold Tri; omega
 | _ :: _, [], [] => by simp only [ordC]; unfold Tri; omega
 | x :: a, [], z :: c => by
  have h : ordC (x :: a) [] = 1 := rfl
  have h2 : ordC [] (z :: c) = -1 := rfl
  rw [h, h2]; unfold Tri; omega
 | x :: a, y :: b, [] => by
  have h : ordC (y :: b) [] = 1 := rfl
  have h2 : ordC (x :: a) [] = 1 := rfl
  rw [h, h2]; unfold Tri; omega
 | x :: a, y :: b, z :: c => by
  rw [ordC_cons, ordC_cons, ordC_cons]
  exact tri_lex (tri_cmpI _ _ _) (tri_ordC a b c)
theorem lex_small {a b : Int} (h : -1 ≤ a ∧ a ≤ 1) (k : -1 ≤ b ∧ b ≤ 1) : -1 ≤ (if a = 0 then b else a) ∧ (if a = 0 then b else a) ≤ 1 := by split <;> assumption
theorem cmpI_small (a b : Int) : -1 ≤ cmpI a b ∧ cmpI a b ≤ 1 := by
 unfold cmpI
 by_cases h : a < b
 ·rw [if_pos h]; omega
 ·rw [if_neg h]
  by_cases h2 : b < a
  ·rw [if_pos h2]; omega
  ·rw [if_neg h2]; omega
theorem ordC_small : ∀ (a b : List Nat), -1 ≤ ordC a b ∧ ordC a b ≤ 1
 | [], [] => by simp [ordC]
 | [], _ :: _ => by simp [ordC]
 | _ :: _, [] => by simp [ordC]
 | x :: a, y :: b => by rw [ordC_cons]; exact lex_small (cmpI_small _ _) (ordC_small a b)
end Go.Proofs.YtchebhafabhabaaGreatDoor
