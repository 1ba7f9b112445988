import Derived.Test.YtjpklncfmbjicaaDoorK16
import Derived.Deep.OwnRows
namespace Go.Proofs.YtjpklncfmbjicaaDoor
open Go.RowKit Go.Shelf
set_option linter.unusedVariables false

theorem key_nil (e : EntD) : ordC [] (keyL e) = -1 := by
  cases h : keyL e with
  | nil => have := keyL_last e; rw [h] at this; cases this
  | cons x t => rfl
theorem rec_few {r : Nat} {s : Bs} {e : EntD} (h : checkS e = 0) : (esOf r s (keyL e) e.val).length + (psOf r s).length ≤ s.es.length + s.ps.length + 6200 := by
  have h1 := keyL_len h
  have h2 := (check_facts h).2.2.2.2.2.2.2.1
  have l1 := (uintL_len (shOf r s (keyL e))).2
  have l2 := (uintL_len ((keyL e).drop (shOf r s (keyL e))).length).2
  have l3 := (uintL_len e.val.length).2
  have hp : (psOf r s).length ≤ s.ps.length + 4 := by unfold psOf; split <;> simp [be4]
  simp only [esOf, recL, List.length_append, List.length_drop] at *
  omega
theorem bld_few (r : Nat) : ∀ (l : List EntD) (s : Bs), (∀ e ∈ l, checkS e = 0) → Up s.la (kvL l) → s.es.length + s.ps.length + 9 + l.length * 6200 ≤ 131072 → (bldS r s l).1 = 0
  | [], s, _, _, _ => rfl
  | e :: t, s, hc, hu, hl => by
    have h0 := hc e (by simp)
    have hr := rec_few (r := r) (s := s) h0
    simp only [List.length_cons] at hl
    have e1 : addE r s e = (0, addB r s (keyL e) e.val) := by
      unfold addE
      have hu1 : ordC s.la (keyL e) < 0 := hu.1
      rw [if_neg (fun k => k h0), if_neg (by rw [ordC_swap s.la (keyL e)]; omega), if_neg]
      unfold fullB
      rw [decide_eq_true_iff]
      omega
    simp only [bldS, e1, if_true]
    refine bld_few r t _ (fun x hx => hc x (by simp [hx])) hu.2 ?_
    simp only [addB]
    omega
theorem bld_up (r : Nat) : ∀ (l : List EntD) (s : Bs), (∀ e ∈ l, checkS e = 0) → Up s.la (kvL l) → (bldS r s l).1 = 0 ∨ (bldS r s l).1 = 53
  | [], s, _, _ => .inl rfl
  | e :: t, s, hc, hu => by
    have h0 := hc e (by simp)
    have hu1 : ordC s.la (keyL e) < 0 := hu.1
    by_cases hf : fullB r s (keyL e) e.val = true
    · have e1 : addE r s e = (53, s) := by
        unfold addE
        rw [if_neg (fun k => k h0), if_neg (by rw [ordC_swap s.la (keyL e)]; omega), if_pos hf]
      simp [bldS, e1]
    · have e1 : addE r s e = (0, addB r s (keyL e) e.val) := by
        unfold addE
        rw [if_neg (fun k => k h0), if_neg (by rw [ordC_swap s.la (keyL e)]; omega), if_neg hf]
      simp only [bldS, e1, if_true]
      exact bld_up r t _ (fun x hx => hc x (by simp [hx])) hu.2
theorem cmp_at (a b c a' b' c' : Value) (s t : Int) : compareS (atD a b c s) (atD a' b' c' t) = cmpI t s := by
  unfold compareS cmpsS atD
  simp [firstNZ, ordC, aheadS, cmpI]
  exact fun h => h.symm
theorem check_at (a b c : Value) (s : Int) (h : 1 ≤ s ∧ s ≤ 1000) : checkS (atD a b c s) = 0 := by
  unfold checkS atD
  simp
  omega
theorem at_list (a1 b1 c1 a2 b2 c2 a3 b3 c3 : Value) : (∀ e ∈ [atD a1 b1 c1 5, atD a2 b2 c2 4, atD a3 b3 c3 3], checkS e = 0) ∧ Up [] (kvL [atD a1 b1 c1 5, atD a2 b2 c2 4, atD a3 b3 c3 3]) ∧ (bldS 2 Bs.zero [atD a1 b1 c1 5, atD a2 b2 c2 4, atD a3 b3 c3 3]).1 = 0 := by
  have hc : ∀ e ∈ [atD a1 b1 c1 5, atD a2 b2 c2 4, atD a3 b3 c3 3], checkS e = 0 := by
    intro e he
    simp only [List.mem_cons, List.not_mem_nil, or_false] at he
    rcases he with rfl | rfl | rfl <;> exact check_at _ _ _ _ (by omega)
  have hu : Up [] (kvL [atD a1 b1 c1 5, atD a2 b2 c2 4, atD a3 b3 c3 3]) := by
    refine ⟨?_, ?_, ?_, trivial⟩
    · show ordC [] (keyL _) < 0
      rw [key_nil]; omega
    · show ordC (keyL _) (keyL _) < 0
      rw [key_ord (hc _ (by simp)) (hc _ (by simp)), cmp_at]; decide
    · show ordC (keyL _) (keyL _) < 0
      rw [key_ord (hc _ (by simp)) (hc _ (by simp)), cmp_at]; decide
  exact ⟨hc, hu, bld_few 2 _ _ hc hu (by simp [Bs.zero])⟩
theorem same_key {a b : EntD} (ha : checkS a = 0) (hb : checkS b = 0) (hk : keyL a = keyL b) (hv : a.val = b.val) : EntD.Same a b := by
  have h := key_ord ha hb
  rw [hk, ordC_self] at h
  have hz : ∀ (l : List Int), firstNZ l = 0 → ∀ x ∈ l, x = 0 := by
    intro l
    induction l with
    | nil => intro _ x hx; cases hx
    | cons y t ih =>
      intro h x hx
      unfold firstNZ at h
      split at h
      · rename_i hy
        rcases List.mem_cons.1 hx with rfl | hx
        · exact hy
        · exact ih h x hx
      · rename_i hy; exact absurd h hy
  have hall := hz _ h.symm
  simp only [cmpsS, List.mem_cons, List.not_mem_nil, or_false, forall_eq_or_imp, forall_eq] at hall
  obtain ⟨h1, h2, h3, h4, h5, h6, h7, h8⟩ := hall
  have cz : ∀ x y : Int, cmpI x y = 0 → x = y := by
    intro x y h
    unfold cmpI at h
    split at h
    · cases h
    · split at h
      · cases h
      · omega
  exact ⟨cz _ _ h2, (cz _ _ h6).symm, (cz _ _ h7).symm, cz _ _ h8, ordC_eq _ _ h1, ordC_eq _ _ h4, hv⟩
set_option maxRecDepth 100000 in
theorem seq_nil5 (f : Nat) (lb : Array Value) (w : World) : Sem.run Tryd.prog (binOp BinOp.eql 34 (.func (.func f) #[] lb) .nilFunc) w = .ok (.bool false) w := by rfl
set_option maxRecDepth 100000 in
theorem len5_any {w : World} {g : Nat} {r n : Int} {ve vp : Value} (h : LBox w g r n ve vp) : Calls Tryd.prog 11 #[.pointer (some ⟨g, 0, none⟩)] w fun e w' => e = .returned (.int .i64 n) ∧ w' = w := by
  obtain ⟨c0, c1, c2, c3⟩ := h.cells
  clear h
  go_enter Tryd.func11, Tryd.ntmps11
  go_wp2
  go_ret
  exact ⟨rfl, rfl⟩
set_option maxRecDepth 100000 in
theorem all5_any {w : World} {g : Nat} : Calls Tryd.prog 12 #[.pointer (some ⟨g, 0, none⟩)] w fun e w' => e = .returned (.func (.func 32) #[] #[.pointer (some ⟨w.heap.size, 0, none⟩)]) ∧ w' = w.alloc (.cells #[.pointer (some ⟨g, 0, none⟩)] 29) := by
  go_enter Tryd.func12, Tryd.ntmps12
  go_wp2
  go_ret
  exact ⟨rfl, rfl⟩
end Go.Proofs.YtjpklncfmbjicaaDoor

namespace Go.Proofs.YtjpklncfmbjicaaDoor
open Go.RowKit Go.Shelf
set_option linter.unusedVariables false

theorem rdl5_three (w : World) (x y z : EntD) (hx : EntD.Ok w x) (hy : EntD.Ok w y) (hz : EntD.Ok w z) (g : Nat) (hg : g = w.heap.size) : RdL5 (w.alloc (.cells #[x.vr, .int .i64 x.fam, x.vq, .int .i64 x.ts, .int .i64 x.seq, .int .i64 x.kind, x.vv, y.vr, .int .i64 y.fam, y.vq, .int .i64 y.ts, .int .i64 y.seq, .int .i64 y.kind, y.vv, z.vr, .int .i64 z.fam, z.vq, .int .i64 z.ts, .int .i64 z.seq, .int .i64 z.kind, z.vv] 37)) (some ⟨g, 0, none⟩) 3 [x, y, z] := by
  subst hg
  have hb := (Below.refl w.heap.size w).alloc (Nat.le_refl _) (.cells #[x.vr, .int .i64 x.fam, x.vq, .int .i64 x.ts, .int .i64 x.seq, .int .i64 x.kind, x.vv, y.vr, .int .i64 y.fam, y.vq, .int .i64 y.ts, .int .i64 y.seq, .int .i64 y.kind, y.vv, z.vr, .int .i64 z.fam, z.vq, .int .i64 z.ts, .int .i64 z.seq, .int .i64 z.kind, z.vv] 37)
  refine ⟨⟨by simp, by unfold maxLen; omega⟩, .inr ⟨w.heap.size, 0, rfl, fun i e hi j u hj => ?_⟩, fun e he => ?_, fun h => by cases h⟩
  · have hj7 : j < 7 := by
      have := (List.getElem?_eq_some_iff.1 hj).1
      simpa [EntD.cells] using this
    have hi3 : i < 3 := by
      have := (List.getElem?_eq_some_iff.1 hi).1
      simpa using this
    have hn := heap_alloc_new w (.cells #[x.vr, .int .i64 x.fam, x.vq, .int .i64 x.ts, .int .i64 x.seq, .int .i64 x.kind, x.vv, y.vr, .int .i64 y.fam, y.vq, .int .i64 y.ts, .int .i64 y.seq, .int .i64 y.kind, y.vv, z.vr, .int .i64 z.fam, z.vq, .int .i64 z.ts, .int .i64 z.seq, .int .i64 z.kind, z.vv] 37)
    simp only [World.cell?, hn]
    match i, hi3, hi with
    | 0, _, hi =>
      simp at hi; subst hi
      match j, hj7, hj with
      | 0, _, hj | 1, _, hj | 2, _, hj | 3, _, hj | 4, _, hj | 5, _, hj | 6, _, hj => simpa [EntD.cells] using hj
    | 1, _, hi =>
      simp at hi; subst hi
      match j, hj7, hj with
      | 0, _, hj | 1, _, hj | 2, _, hj | 3, _, hj | 4, _, hj | 5, _, hj | 6, _, hj => simpa [EntD.cells] using hj
    | 2, _, hi =>
      simp at hi; subst hi
      match j, hj7, hj with
      | 0, _, hj | 1, _, hj | 2, _, hj | 3, _, hj | 4, _, hj | 5, _, hj | 6, _, hj => simpa [EntD.cells] using hj
  · simp only [List.mem_cons, List.not_mem_nil, or_false] at he
    rcases he with rfl | rfl | rfl
    · exact hx.later hb
    · exact hy.later hb
    · exact hz.later hb
theorem fold_bys (r : Nat) : ∀ (l : List (List Nat × List Nat)) (s : Bs), (∀ kv ∈ l, Bys kv.1 ∧ Bys kv.2 ∧ kv.1.length < 18446744073709551616 ∧ kv.2.length < 18446744073709551616) → Bys s.es → Bys s.ps → (foldB r s l).es.length < 4294967296 → Bys (foldB r s l).es ∧ Bys (foldB r s l).ps
  | [], s, _, h1, h2, _ => ⟨h1, h2⟩
  | kv :: t, s, hk, h1, h2, hl => by
    obtain ⟨m, hm⟩ := foldB_es r (kv :: t) s
    have hs : s.es.length < 4294967296 := by rw [hm] at hl; simp at hl; omega
    obtain ⟨b1, b2, l1, l2⟩ := hk kv (by simp)
    simp only [foldB] at *
    refine fold_bys r t _ (fun x hx => hk x (by simp [hx])) ?_ ?_ hl
    · simp only [addB, esOf, recL]
      have hsh : shOf r s kv.1 ≤ kv.1.length := by unfold shOf; split; omega; exact (comL_le _ _).2
      refine h1.app ((uintL_bys _ (by omega)).app ((uintL_bys _ (by rw [List.length_drop]; omega)).app (Bys.app (fun x hx => b1 x (List.mem_of_mem_drop hx)) ((uintL_bys _ l2).app b2))))
    · simp only [addB, psOf]
      split
      · exact h2.app (be4_bys _ hs)
      · exact h2
theorem Blad.bys {r : Nat} {l : List (List Nat × List Nat)} {E P : List Nat} (h : Blad r l E P) (hk : ∀ kv ∈ l, Bys kv.1 ∧ Bys kv.2 ∧ kv.1.length < 18446744073709551616 ∧ kv.2.length < 18446744073709551616) : Bys (blockL E P l.length r) := by
  have hs := h.size
  obtain ⟨h1, h2⟩ := fold_bys r l Bs.zero hk (fun x hx => by cases hx) (fun x hx => by cases hx) (by rw [← h.es]; omega)
  rw [← h.es] at h1
  rw [← h.ps] at h2
  have := h.few
  have := h.r16
  unfold blockL bodyL
  exact (((h1.app h2).app (be4_bys _ (by omega))).app (fun x hx => by simp at hx; omega)).app (le4_bys _ (sumL_lt _))
theorem RdL5.bys {w : World} {a : Option Addr} {kp : Nat} {l : List EntD} (h : RdL5 w a kp l) (hc : ∀ e ∈ l, checkS e = 0) : ∀ kv ∈ kvL l, Bys kv.1 ∧ Bys kv.2 ∧ kv.1.length < 18446744073709551616 ∧ kv.2.length < 18446744073709551616 := by
  intro kv hkv
  obtain ⟨e, he, rfl⟩ := List.mem_map.1 hkv
  have hok := h.ok e he
  have hc0 := hc e he
  refine ⟨keyL_bys hok.1.1 hok.2.1.1 hc0, hok.2.2.1, ?_, ?_⟩
  · have := keyL_len hc0; simp only; omega
  · have := (check_facts hc0).2.2.2.2.2.2.2.1; simp only; omega
set_option maxRecDepth 100000 in
set_option maxHeartbeats 4000000 in
theorem told5_any (w : World) (ht : Tab w) : Calls Tryd.prog 9 #[] w fun e w' => e = .returned (.bool true) ∧ Below w.heap.size w w' := by
  have HT := Lib.hid ht
  clear ht
  go_enter Tryd.func9, Tryd.ntmps9
  go_wp2_with fail
  refine Calls.mono (at_any 5 w) ?_
  rintro z X1 ⟨vr1, vq1, vv1, rfl, ok1, b1⟩
  obtain ⟨a1, k1, c1, e1⟩ := rd_slice ok1.1
  obtain ⟨aq1, kq1, cq1, eq1⟩ := rd_slice ok1.2.1
  obtain ⟨av1, kv1, cv1, ev1⟩ := rd_slice ok1.2.2
  simp only [atD] at e1 eq1 ev1
  subst e1 eq1 ev1
  simp only [atD, EntD.cells]
  go_wp2_with fail
  refine Calls.mono (at_any 4 X1) ?_
  rintro z X2 ⟨vr2, vq2, vv2, rfl, ok2, b2⟩
  obtain ⟨a2, k2, c2, e2⟩ := rd_slice ok2.1
  obtain ⟨aq2, kq2, cq2, eq2⟩ := rd_slice ok2.2.1
  obtain ⟨av2, kv2, cv2, ev2⟩ := rd_slice ok2.2.2
  simp only [atD] at e2 eq2 ev2
  subst e2 eq2 ev2
  simp only [atD, EntD.cells]
  go_wp2_with fail
  refine Calls.mono (at_any 3 X2) ?_
  rintro z X3 ⟨vr3, vq3, vv3, rfl, ok3, b3⟩
  obtain ⟨a3, k3, c3, e3⟩ := rd_slice ok3.1
  obtain ⟨aq3, kq3, cq3, eq3⟩ := rd_slice ok3.2.1
  obtain ⟨av3, kv3, cv3, ev3⟩ := rd_slice ok3.2.2
  simp only [atD] at e3 eq3 ev3
  subst e3 eq3 ev3
  simp only [atD, EntD.cells]
  have bX3 : Below w.heap.size w X3 := (b1.trans (b2.mono b1.size)).trans (b3.mono (Nat.le_trans b1.size b2.size))
  have hrd := rdl5_three X3 _ _ _ ((ok1.later b2).later b3) (ok2.later b3) ok3 X3.heap.size rfl
  simp only [atD] at hrd
  have bX4 := bX3.alloc bX3.size (.cells #[.slice a1 k1 c1, .int .i64 0, .slice aq1 kq1 cq1, .int .i64 5, .int .i64 32, .int .i64 1, .slice av1 kv1 cv1, .slice a2 k2 c2, .int .i64 0, .slice aq2 kq2 cq2, .int .i64 4, .int .i64 32, .int .i64 1, .slice av2 kv2 cv2, .slice a3 k3 c3, .int .i64 0, .slice aq3 kq3 cq3, .int .i64 3, .int .i64 32, .int .i64 1, .slice av3 kv3 cv3] 37)
  obtain ⟨X4, hX4⟩ : ∃ X4, X4 = X3.alloc (.cells #[.slice a1 k1 c1, .int .i64 0, .slice aq1 kq1 cq1, .int .i64 5, .int .i64 32, .int .i64 1, .slice av1 kv1 cv1, .slice a2 k2 c2, .int .i64 0, .slice aq2 kq2 cq2, .int .i64 4, .int .i64 32, .int .i64 1, .slice av2 kv2 cv2, .slice a3 k3 c3, .int .i64 0, .slice aq3 kq3 cq3, .int .i64 3, .int .i64 32, .int .i64 1, .slice av3 kv3 cv3] 37) := ⟨_, rfl⟩
  rw [← hX4] at hrd bX4
  have hrd2 : RdL5 X4 (some ⟨X3.heap.size, 0, none⟩) 3 [(atD (.slice a1 k1 c1) (.slice aq1 kq1 cq1) (.slice av1 kv1 cv1) 5), (atD (.slice a2 k2 c2) (.slice aq2 kq2 cq2) (.slice av2 kv2 cv2) 4), (atD (.slice a3 k3 c3) (.slice aq3 kq3 cq3) (.slice av3 kv3 cv3) 3)] := hrd
  obtain ⟨l, hl⟩ : ∃ l, l = [(atD (.slice a1 k1 c1) (.slice aq1 kq1 cq1) (.slice av1 kv1 cv1) 5), (atD (.slice a2 k2 c2) (.slice aq2 kq2 cq2) (.slice av2 kv2 cv2) 4), (atD (.slice a3 k3 c3) (.slice aq3 kq3 cq3) (.slice av3 kv3 cv3) 3)] := ⟨_, rfl⟩
  have hat := at_list (.slice a1 k1 c1) (.slice aq1 kq1 cq1) (.slice av1 kv1 cv1) (.slice a2 k2 c2) (.slice aq2 kq2 cq2) (.slice av2 kv2 cv2) (.slice a3 k3 c3) (.slice aq3 kq3 cq3) (.slice av3 kv3 cv3)
  have hl3 : l.length = 3 := by rw [hl]; rfl
  have hl1 : l[1]? = some (atD (.slice a2 k2 c2) (.slice aq2 kq2 cq2) (.slice av2 kv2 cv2) 4) := by rw [hl]; rfl
  rw [← hl] at hrd2 hat
  have hla : Blad 2 (kvL l) (bldS 2 Bs.zero l).2.es (bldS 2 Bs.zero l).2.ps := laid_of (by omega) (by omega) hat.2.2 (by rw [hl]; simp)
  obtain ⟨E, hE⟩ : ∃ E, E = (bldS 2 Bs.zero l).2.es := ⟨_, rfl⟩
  obtain ⟨P, hP⟩ : ∃ P, P = (bldS 2 Bs.zero l).2.ps := ⟨_, rfl⟩
  have hbn : (bldS 2 Bs.zero l).2.n = 3 := by rw [bldS_n 2 l Bs.zero hat.2.2, hl3]; rfl
  have hTX4 : Tab X4 := HT.out.later bX4
  have hbu := build_any 2 hrd2 hTX4
  have hrb := fun (wx : World) (hx : Below X4.heap.size X4 wx) => refBuild5_ok (hrd2.later hx) hla hat.1
  rw [hl3] at hbu
  simp only [hl3] at hrb
  rw [← hE, ← hP] at hla
  simp only [← hE, ← hP] at hrb
  have hby : Hid (Bys (blockL E P 3 2)) := by
    have h := hla.bys (hrd2.bys hat.1)
    rw [kvL_len, hl3] at h
    exact h
  have HBu := Lib.hid hbu
  have HRb := Lib.hid hrb
  have HLa := Lib.hid hla
  have HX4 := Lib.hid hX4
  have HB4 := Lib.hid bX4
  have HT4 := Lib.hid hTX4
  have HAt := Lib.hid (And.intro hat (And.intro hE (And.intro hP (And.intro hbn (And.intro hl3 (And.intro hl1 (show l ≠ [] by rw [hl]; simp)))))))
  clear ok1 ok2 ok3 b1 b2 b3 bX3 hrd bX4 hX4 hrd2 hl hat hl3 hl1 hla hE hP hbn hTX4 hbu hrb
  go_wp2_with fail
  rw [← HX4.out]
  clear HX4
  refine Calls.mono HBu.out ?_
  rintro z X5 ⟨v5, E5, rfl, b5, -, -, -, h5⟩
  obtain ⟨rfl, a5, m5, c5, rfl, own5⟩ := h5 (by omega) HAt.out.1.2.2 HAt.out.2.2.2.2.2.2
  have own5b : Own X5 X4.heap.size (.slice a5 m5 c5) m5 (blockL E P 3 2) := by
    have h := own5
    rw [show (2 : Int).toNat = 2 from rfl, ← HAt.out.2.1, ← HAt.out.2.2.1, HAt.out.2.2.2.1] at h
    exact h
  have hm5 : Hid (m5 = E.length + P.length + 9) := by unfold Hid; rw [own5b.1, blockL_len]
  have hEP := HLa.out.size
  have hm17 : m5 ≤ 131072 := by rw [hm5.out]; omega
  have HB5 := Lib.hid b5
  have HO5 := Lib.hid own5b
  have HRb5 := Lib.hid (HRb.out X5 b5)
  clear h5 own5 own5b b5 HRb HBu hEP
  go_wp2_with fail
  refine Calls.mono HRb5.out ?_
  rintro z X6 ⟨a6, m6, c6, rfl, own6, b6⟩
  have HB6 := Lib.hid b6
  have HRd := Lib.hid (And.intro ((HO5.out.later b6).rd hby.out (by omega)) (own6.rd hby.out (by rw [own6.1, ← HO5.out.1]; omega)))
  clear own6 b6 HRb5
  have HBg := Lib.hid (begin_any 2 X6)
  go_wp2_with fail
  refine Calls.mono HBg.out ?_
  rintro z X7 ⟨b7, h | h⟩
  · exact absurd (by omega) h.1
  obtain ⟨-, g7, hg7, rfl, -⟩ := h
  have HB7 := Lib.hid b7
  have HSm := Lib.hid (same5_any (HRd.out.1.later b7) (HRd.out.2.later b7))
  rw [decide_eq_true rfl] at HSm
  clear hg7 b7 HBg
  go_wp2_with fail
  refine Calls.mono HSm.out ?_
  rintro z X8 ⟨rfl, b8⟩
  have hB8 : Below w.heap.size w X8 := (((HB4.out.trans (HB5.out.mono HB4.out.size)).trans (HB6.out.mono (Nat.le_trans HB4.out.size HB5.out.size))).trans (HB7.out.mono (Nat.le_trans HB4.out.size (Nat.le_trans HB5.out.size HB6.out.size)))).trans (b8.mono (Nat.le_trans HB4.out.size (Nat.le_trans HB5.out.size (Nat.le_trans HB6.out.size HB7.out.size))))
  have HB8 := Lib.hid hB8
  have HOp := Lib.hid (open_any ((HRd.out.1.later HB7.out).later b8) (HT.out.later hB8))
  clear b8 hB8 HSm HRd
  go_wp2_with fail
  refine Calls.mono HOp.out ?_
  rintro z X9 ⟨b9, h⟩
  obtain ⟨o1, o2, o3, o4, o5⟩ := HLa.out.opens
  rw [kvL_len, HAt.out.2.2.2.2.1] at o1 o2 o3 o4 o5
  rcases h with h | h
  · exact absurd o1 h.1
  obtain ⟨-, g, bb, ne, ce, np, cp, rfl, lk⟩ := h
  rw [o2, o3, o4, o5] at lk
  have HLk := Lib.hid lk
  have HB9 := Lib.hid (HB8.out.trans (b9.mono HB8.out.size))
  have HLn := Lib.hid (len5_any lk.box)
  clear lk b9 o1 o2 o3 o4 o5 HOp
  go_wp2_with fail
  refine Calls.mono HLn.out ?_
  rintro z X10 ⟨rfl, rfl⟩
  have hk3 : Lk X10 X8.heap.size g 2 (kvL l).length bb ne ce E P np cp := by rw [kvL_len, HAt.out.2.2.2.2.1]; exact HLk.out
  have hnl : notLow 2 (kvL l) [] 0 = true := by
    unfold notLow
    rw [decide_eq_true_iff]
    cases h : ((kvL l)[0 * 2]?.getD ([], [])).1 with
    | nil => simp [ordC]
    | cons x t => simp [ordC]
  have HSk := Lib.hid (seek_first HLa.out hk3 (Rd.nil X10) hnl)
  clear HLn hk3 hnl
  go_wp2_with fail
  refine Calls.mono HSk.out ?_
  rintro z X11 ⟨rfl, b11⟩
  have HB11 := Lib.hid (HB9.out.trans (b11.mono HB9.out.size))
  have hLk11 : Lk X11 X8.heap.size g 2 3 bb ne ce E P np cp := ⟨HLk.out.box.later b11, HLk.out.ents.later b11, HLk.out.pls.later b11, HLk.out.bg, HLk.out.bb, HLk.out.ne⟩
  have HLk11 := Lib.hid hLk11
  have HAl := Lib.hid (all5_any (w := X11) (g := g))
  clear b11 HSk hLk11 HLk
  have hsq := seq_nil5 32
  go_wp2_with fail
  refine Calls.mono HAl.out ?_
  rintro z X12 ⟨rfl, hX12⟩
  have b12 : Below X11.heap.size X11 X12 := by rw [hX12]; exact (Below.refl _ _).alloc (Nat.le_refl _) _
  have HB12 := Lib.hid (HB11.out.trans (b12.mono HB11.out.size))
  have hk12 : Lk X12 X8.heap.size g 2 (kvL l).length bb ne ce E P np cp := by rw [kvL_len, HAt.out.2.2.2.2.1]; exact ⟨HLk11.out.box.later b12, HLk11.out.ents.later b12, HLk11.out.pls.later b12, HLk11.out.bg, HLk11.out.bb, HLk11.out.ne⟩
  have HA1 := Lib.hid (atB_any HLa.out hk12 1)
  clear hX12 b12 HAl hk12
  go_wp2_with fail
  refine Calls.mono HA1.out ?_
  rintro z X13 ⟨b13, h | h⟩
  · exact absurd ⟨by omega, by rw [kvL_len, HAt.out.2.2.2.2.1]; omega⟩ h.1
  obtain ⟨-, kv, y, hkv, rfl, yok, yc, yk, yv, -⟩ := h
  have hsame : Hid (∀ p q u, EntD.Same y (atD p q u 4)) := fun p q u => by
    have h1 : kvL l = l.map fun e => (keyL e, e.val) := rfl
    have h2 := hkv
    rw [h1, List.getElem?_map, show (1 : Int).toNat = 1 from rfl, HAt.out.2.2.2.2.2.1] at h2
    simp only [Option.map_some, Option.some.injEq] at h2
    subst h2
    exact same_key yc (check_at p q u 4 (by omega)) yk yv
  have HB13 := Lib.hid (HB12.out.trans (b13.mono HB12.out.size))
  obtain ⟨vy, fy, vyq, ty, sy, dy, vyv, ry, qy, ly⟩ := y
  have hy0 := yok
  simp only [EntD.Ok] at hy0
  obtain ⟨ay, ky, cy, rfl⟩ := rd_slice hy0.1
  obtain ⟨ayq, kyq, cyq, rfl⟩ := rd_slice hy0.2.1
  obtain ⟨ayv, kyv, cyv, rfl⟩ := rd_slice hy0.2.2
  have HY := Lib.hid yok
  have ebY := EBox.new X13 ⟨.slice ay ky cy, fy, .slice ayq kyq cyq, ty, sy, dy, .slice ayv kyv cyv, ry, qy, ly⟩
  have bY := (Below.refl X13.heap.size X13).alloc (Nat.le_refl _) (.cells (EntD.mk (.slice ay ky cy) fy (.slice ayq kyq cyq) ty sy dy (.slice ayv kyv cyv) ry qy ly).cells 37)
  simp only [EntD.cells] at ebY bY
  obtain ⟨X14, hX14⟩ : ∃ X14, X14 = X13.alloc (.cells #[.slice ay ky cy, .int .i64 fy, .slice ayq kyq cyq, .int .i64 ty, .int .i64 sy, .int .i64 dy, .slice ayv kyv cyv] 37) := ⟨_, rfl⟩
  rw [← hX14] at ebY bY
  have HX14 := Lib.hid hX14
  have HEb := Lib.hid ebY
  have HB14 := Lib.hid (HB13.out.trans (bY.mono HB13.out.size))
  have HY14 := Lib.hid (HY.out.later bY)
  have HOn := Lib.hid (open_any (Rd.nil X14) (HT.out.later HB14.out))
  clear hkv yok yc yk yv b13 hy0 ebY bY hX14 HA1 HY
  simp only [EntD.cells]
  go_upto_region 11 with fail
  rw [← HX14.out]
  clear HX14
  go_wp2_with fail
  refine Calls.mono HOn.out ?_
  rintro z X15 ⟨b15, h⟩
  have h51 : opE [] = 51 := opE_short (by simp)
  rw [h51] at h
  rcases h with h | h
  · obtain ⟨-, rfl⟩ := h
    have HB15 := Lib.hid (HB14.out.trans (b15.mono HB14.out.size))
    have HEb15 := Lib.hid (HEb.out.later b15)
    have HY15 := Lib.hid (HY14.out.later b15)
    clear b15 h51 HOn HEb HY14
    go_upto_region 12 with fail
    have BD : Below X15.heap.size X15 X15.drew := (Below.refl _ _).drew
    refine wp_region_noPanic ?_
    refine wp_region_held_drew (S := fun wx => Below X15.heap.size X15 wx) (by kernel_rfl) BD (fun hHeld => ?_)
    refine wpAnyH_take (i := 0) (oi := { dst := some 83, op := _, type := _, pos := _, after := _, guard := _ }) (v := .int .i64 0) rfl (by kernel_rfl) (by kernel_rfl) (by kernel_rfl) (fun _ _ _ h => h) (Or.inl ⟨by kernel_rfl, fun wy hy => by (go_simp; first | done | omega)⟩) (by assumption) ?_
    try simp only [Act.put, List.setIfInBounds_toArray, List.set_cons_zero, List.set_cons_succ]
    refine wpAnyH_take (i := 1) (oi := { dst := some 84, op := _, type := _, pos := _, after := _, guard := _ }) (v := .bool true) rfl (by kernel_rfl) (by kernel_rfl) (by kernel_rfl) (fun _ _ _ h => h) (Or.inl ⟨by kernel_rfl, fun wy hy => by (go_simp; first | done | omega)⟩) (by assumption) ?_
    try simp only [Act.put, List.setIfInBounds_toArray, List.set_cons_zero, List.set_cons_succ]
    refine wpAnyH_take (i := 2) (oi := { dst := some 85, op := _, type := _, pos := _, after := _, guard := _ }) (v := .bool true) rfl (by kernel_rfl) (by kernel_rfl) (by kernel_rfl) (fun _ _ _ h => h) (Or.inl ⟨by kernel_rfl, fun wy hy => by (go_simp; first | done | omega)⟩) (by assumption) ?_
    try simp only [Act.put, List.setIfInBounds_toArray, List.set_cons_zero, List.set_cons_succ]
    refine wpAnyH_take (i := 3) (oi := { dst := some 86, op := _, type := _, pos := _, after := _, guard := _ }) (v := .agg #[.slice ay ky cy, .int .i64 fy, .slice ayq kyq cyq, .int .i64 ty, .int .i64 sy, .int .i64 dy, .slice ayv kyv cyv]) rfl (by kernel_rfl) (by kernel_rfl) (by kernel_rfl) (fun _ _ _ h => h) (Or.inl ⟨by kernel_rfl, fun wy hy => by (obtain ⟨g0, g1, g2, g3, g4, g5, g6⟩ := (HEb15.out.later hy).cells7; simp only at g0 g1 g2 g3 g4 g5 g6; go_simp; done)⟩) (by assumption) ?_
    try simp only [Act.put, List.setIfInBounds_toArray, List.set_cons_zero, List.set_cons_succ]
    refine wpAnyH_ready (rs := [4]) (by kernel_rfl) (by simp) ?_
    refine AllReadyH.cons (o := { dst := some 87, op := _, type := _, pos := _, after := _, guard := _ }) rfl (fun KK hK => ?_) AllReadyH.nil
    go_simp
    go_at_call 20
    refine (at_any 4 _).mono ?_
    rintro e9 Y1 ⟨vr4, vq4, vv4, rfl, ok4, b4⟩
    have bY1 : Below X15.heap.size X15 Y1 := BD.trans (b4.mono BD.size)
    obtain ⟨a4, k4, c4, e4⟩ := rd_slice ok4.1
    obtain ⟨aq4, kq4, cq4, eq4⟩ := rd_slice ok4.2.1
    obtain ⟨av4, kv4, cv4, ev4⟩ := rd_slice ok4.2.2
    simp only [atD] at e4 eq4 ev4
    subst e4 eq4 ev4
    have hse := se_any (HY15.out.later bY1) ok4
    rw [decide_eq_true (hsame.out _ _ _)] at hse
    have HSe := Lib.hid hse
    simp only [atD, EntD.cells] at HSe ⊢
    clear ok4 b4 BD hse
    go_wp2_with fail
    refine hK.out _ _ bY1 (fun hHeld => ?_)
    clear hK
    try simp only [Act.put, List.setIfInBounds_toArray, List.set_cons_zero, List.set_cons_succ]
    refine wpAnyH_ready (rs := [5]) (by kernel_rfl) (by simp) ?_
    refine AllReadyH.cons (o := { dst := some 88, op := _, type := _, pos := _, after := _, guard := _ }) rfl (fun KK hK => ?_) AllReadyH.nil
    go_simp
    go_at_call 13
    refine HSe.out.mono ?_
    rintro e9 Y2 ⟨rfl, b2⟩
    have bY2 : Below X15.heap.size X15 Y2 := bY1.trans (b2.mono bY1.size)
    clear b2 HSe
    go_wp2_with fail
    refine hK.out _ _ bY2 (fun hHeld => ?_)
    clear hK
    try simp only [Act.put, List.setIfInBounds_toArray, List.set_cons_zero, List.set_cons_succ]
    refine wpAnyH_take (i := 6) (oi := { dst := some 89, op := _, type := _, pos := _, after := _, guard := _ }) (v := .bool true) rfl (by kernel_rfl) (by kernel_rfl) (by kernel_rfl) (fun _ _ _ h => h) (Or.inl ⟨by kernel_rfl, fun wy hy => by (go_simp; first | done | omega)⟩) (by assumption) ?_
    try simp only [Act.put, List.setIfInBounds_toArray, List.set_cons_zero, List.set_cons_succ]
    refine wpAnyH_take (i := 7) (oi := { dst := some 90, op := _, type := _, pos := _, after := _, guard := _ }) (v := .bool true) rfl (by kernel_rfl) (by kernel_rfl) (by kernel_rfl) (fun _ _ _ h => h) (Or.inl ⟨by kernel_rfl, fun wy hy => by (go_simp; first | done | omega)⟩) (by assumption) ?_
    try simp only [Act.put, List.setIfInBounds_toArray, List.set_cons_zero, List.set_cons_succ]
    refine wpAnyH_take (i := 8) (oi := { dst := some 91, op := _, type := _, pos := _, after := _, guard := _ }) (v := .pointer none) rfl (by kernel_rfl) (by kernel_rfl) (by kernel_rfl) (fun _ _ _ h => h) (Or.inl ⟨by kernel_rfl, fun wy hy => by (go_simp; first | done | omega)⟩) (by assumption) ?_
    try simp only [Act.put, List.setIfInBounds_toArray, List.set_cons_zero, List.set_cons_succ]
    refine wpAnyH_take (i := 9) (oi := { dst := some 92, op := _, type := _, pos := _, after := _, guard := _ }) (v := .bool true) rfl (by kernel_rfl) (by kernel_rfl) (by kernel_rfl) (fun _ _ _ h => h) (Or.inl ⟨by kernel_rfl, fun wy hy => by (go_simp; first | done | omega)⟩) (by assumption) ?_
    try simp only [Act.put, List.setIfInBounds_toArray, List.set_cons_zero, List.set_cons_succ]
    refine wpAnyH_take (i := 10) (oi := { dst := some 93, op := _, type := _, pos := _, after := _, guard := _ }) (v := .bool true) rfl (by kernel_rfl) (by kernel_rfl) (by kernel_rfl) (fun _ _ _ h => h) (Or.inl ⟨by kernel_rfl, fun wy hy => by (go_simp; first | done | omega)⟩) (by assumption) ?_
    try simp only [Act.put, List.setIfInBounds_toArray, List.set_cons_zero, List.set_cons_succ]
    refine wpAnyH_take (i := 11) (oi := { dst := some 94, op := _, type := _, pos := _, after := _, guard := _ }) (v := .bool true) rfl (by kernel_rfl) (by kernel_rfl) (by kernel_rfl) (fun _ _ _ h => h) (Or.inl ⟨by kernel_rfl, fun wy hy => by (go_simp; first | done | omega)⟩) (by assumption) ?_
    try simp only [Act.put, List.setIfInBounds_toArray, List.set_cons_zero, List.set_cons_succ]
    refine wpAnyH_take (i := 12) (oi := { dst := some 95, op := _, type := _, pos := _, after := _, guard := _ }) (v := .int .i64 51) rfl (by kernel_rfl) (by kernel_rfl) (by kernel_rfl) (fun _ _ _ h => h) (Or.inl ⟨by kernel_rfl, fun wy hy => by (go_simp; first | done | omega)⟩) (by assumption) ?_
    try simp only [Act.put, List.setIfInBounds_toArray, List.set_cons_zero, List.set_cons_succ]
    refine wpAnyH_take (i := 13) (oi := { dst := some 96, op := _, type := _, pos := _, after := _, guard := _ }) (v := .bool true) rfl (by kernel_rfl) (by kernel_rfl) (by kernel_rfl) (fun _ _ _ h => h) (Or.inl ⟨by kernel_rfl, fun wy hy => by (go_simp; first | done | omega)⟩) (by assumption) ?_
    try simp only [Act.put, List.setIfInBounds_toArray, List.set_cons_zero, List.set_cons_succ]
    refine wpAnyH_take (i := 14) (oi := { dst := some 97, op := _, type := _, pos := _, after := _, guard := _ }) (v := .bool true) rfl (by kernel_rfl) (by kernel_rfl) (by kernel_rfl) (fun _ _ _ h => h) (Or.inl ⟨by kernel_rfl, fun wy hy => by (go_simp; first | done | omega)⟩) (by assumption) ?_
    try simp only [Act.put, List.setIfInBounds_toArray, List.set_cons_zero, List.set_cons_succ]
    refine wpAnyH_take (i := 15) (oi := { dst := some 0, op := _, type := _, pos := _, after := _, guard := _ }) (v := .bool true) rfl (by kernel_rfl) (by kernel_rfl) (by kernel_rfl) (fun _ _ _ h => h) (Or.inl ⟨by kernel_rfl, fun wy hy => by (go_simp; first | done | omega)⟩) (by assumption) ?_
    try simp only [Act.put, List.setIfInBounds_toArray, List.set_cons_zero]
    refine wpAnyH_done (by kernel_rfl) (NoPanic.normal ?_) _
    have HBE := Lib.hid (HB15.out.trans (bY2.mono HB15.out.size))
    clear hHeld bY2
    go_simp
    go_step
    go_wp2
    go_ret
    exact ⟨rfl, HBE.out⟩
  · exact absurd h.1 (by decide)
end Go.Proofs.YtjpklncfmbjicaaDoor

namespace Go.Proofs.YtjpklncfmbjicaaDoor
open Go.RowKit Go.Shelf
set_option linter.unusedVariables false

def aeD (vr vq vv : Value) (ts : Int) (V : List Nat) : EntD := ⟨vr, 0, vq, ts, 32, 1, vv, [114], [113], V⟩
def atK (ts : Int) : List Nat := keyL (aeD (.slice none 0 0) (.slice none 0 0) (.slice none 0 0) ts [])
theorem aeD_key (vr vq vv : Value) (ts : Int) (V : List Nat) : keyL (aeD vr vq vv ts V) = atK ts := rfl
theorem ae_check (vr vq vv : Value) (ts : Int) (V : List Nat) (h : 1 ≤ ts ∧ ts ≤ 1000) (hV : V.length ≤ 4096) : checkS (aeD vr vq vv ts V) = 0 := by
  unfold checkS aeD
  simp
  rw [if_neg (by omega), if_neg (by omega)]
theorem atK_lt {s t : Int} (hs : 1 ≤ s ∧ s ≤ 1000) (ht : 1 ≤ t ∧ t ≤ 1000) (h : t < s) : ordC (atK s) (atK t) < 0 := by
  unfold atK
  rw [key_ord (ae_check _ _ _ s [] hs (by simp)) (ae_check _ _ _ t [] ht (by simp))]
  have : compareS (aeD (.slice none 0 0) (.slice none 0 0) (.slice none 0 0) s []) (aeD (.slice none 0 0) (.slice none 0 0) (.slice none 0 0) t []) = cmpI t s := by
    unfold compareS cmpsS aeD
    simp [firstNZ, ordC, aheadS, cmpI]
    exact fun h => h.symm
  rw [this]
  unfold cmpI
  rw [if_pos h]
  omega
theorem atK_len (ts : Int) : (atK ts).length ≤ 30 := by
  have h3 : ∀ n, (be8 n).length = 8 := fun n => rfl
  unfold atK
  rw [keyL_parts, if_neg (show ¬ (aeD (.slice none 0 0) (.slice none 0 0) (.slice none 0 0) ts []).kind = 5 from by show ¬ (1 : Int) = 5; decide)]
  simp only [List.length_append, List.length_cons, List.length_nil, h3]
  have e1 : (ordL (aeD (.slice none 0 0) (.slice none 0 0) (.slice none 0 0) ts []).row).length = 3 := rfl
  have e2 : (ordL (aeD (.slice none 0 0) (.slice none 0 0) (.slice none 0 0) ts []).qual).length = 3 := rfl
  omega
theorem made_rd (w : World) (n : Nat) (hn : n ≤ 200000) : Rd (w.alloc (.cells (madeCells #[.int .u8 0] n) 5)) (.slice (some ⟨w.heap.size, 0, none⟩) n n) (List.replicate n 0) := by
  obtain ⟨c, h1, h2, h3⟩ := World.rowIs_made w (.int .u8 0) n 5
  refine ⟨?_, some ⟨w.heap.size, 0, none⟩, n, by simp, by simp, by unfold maxLen; omega, by simp; omega, .inr ⟨_, _, rfl⟩, .inr ⟨w.heap.size, 0, rfl, fun i hi => ?_⟩⟩
  · intro x hx
    rw [List.mem_replicate] at hx
    omega
  · have hi2 : i < n := by simpa using hi
    simp only [World.cell?]
    rw [heap_alloc_new]
    simp [madeCells, hi2, Nat.mod_one]
structure Lg (W : World) (g r : Nat) (wr : World) (k : Nat) (kvs : List (List Nat × List Nat)) (ve vp vl : Value) : Prop where
  bd : Bd wr W.heap.size g r (foldB r Bs.zero kvs) ve vp vl
  len : kvs.length ≤ k
  some_ : 1 ≤ k → kvs ≠ []
  ok : ∀ kv ∈ kvs, okIt kv.1 kv.2
  up : Up [] kvs
  la : kvs = [] ∨ ∃ j : Nat, j < k ∧ lastK kvs = atK (1000 - (j : Int))
  by_ : ∀ kv ∈ kvs, Bys kv.1 ∧ Bys kv.2 ∧ kv.1.length < 18446744073709551616 ∧ kv.2.length < 18446744073709551616
  sz : kvs = [] ∨ (foldB r Bs.zero kvs).es.length + (foldB r Bs.zero kvs).ps.length + 9 ≤ 131072
  bel : Below W.heap.size W wr
theorem Lg.later {W wr wx : World} {g r k : Nat} {kvs : List (List Nat × List Nat)} {ve vp vl : Value} (h : Lg W g r wr k kvs ve vp vl) (b : Below wr.heap.size wr wx) : Lg W g r wx k kvs ve vp vl :=
  ⟨h.bd.later b, h.len, h.some_, h.ok, h.up, h.la, h.by_, h.sz, h.bel.trans (b.mono h.bel.size)⟩
theorem lastK_snoc : ∀ (l : List (List Nat × List Nat)) (x : List Nat × List Nat), lastK (l ++ [x]) = x.1
  | [], x => rfl
  | [y], x => rfl
  | y :: z :: t, x => by
    show lastK ((z :: t) ++ [x]) = x.1
    exact lastK_snoc (z :: t) x
theorem up_snoc : ∀ (l : List (List Nat × List Nat)) (la : List Nat) (x : List Nat × List Nat), Up la l → ordC (if l = [] then la else lastK l) x.1 < 0 → Up la (l ++ [x])
  | [], la, x, _, h => ⟨by simpa using h, trivial⟩
  | [y], la, x, hu, h => ⟨hu.1, by simpa [lastK] using h, trivial⟩
  | y :: z :: t, la, x, hu, h => ⟨hu.1, up_snoc (z :: t) y.1 x hu.2 (by simpa [lastK] using h)⟩
theorem Lg.key {W wr : World} {g r k : Nat} {kvs : List (List Nat × List Nat)} {ve vp vl : Value} (h : Lg W g r wr k kvs ve vp vl) (hk : k ≤ 200) : ordC (foldB r Bs.zero kvs).la (atK (1000 - (k : Int))) < 0 := by
  rw [fold_last]
  rcases h.la with rfl | ⟨j, hj, e⟩
  · exact by rw [show lastK [] = [] from rfl, show atK (1000 - (k : Int)) = keyL (aeD (.slice none 0 0) (.slice none 0 0) (.slice none 0 0) (1000 - (k : Int)) []) from rfl, key_nil]; omega
  · rw [e]
    exact atK_lt (by omega) (by omega) (by omega)
theorem Lg.full {W wr : World} {g r k : Nat} {kvs : List (List Nat × List Nat)} {ve vp vl : Value} (h : Lg W g r wr k kvs ve vp vl) (V : List Nat) (hV : V.length ≤ 4096) (ts : Int) (hf : fullB r (foldB r Bs.zero kvs) (atK ts) V = true) : kvs ≠ [] ∧ 131072 ≤ (foldB r Bs.zero kvs).es.length + (foldB r Bs.zero kvs).ps.length + 9 + V.length + 64 := by
  have hl := atK_len ts
  have l1 := (uintL_len (shOf r (foldB r Bs.zero kvs) (atK ts))).2
  have l2 := (uintL_len ((atK ts).drop (shOf r (foldB r Bs.zero kvs) (atK ts))).length).2
  have l3 := (uintL_len V.length).2
  have hp : (psOf r (foldB r Bs.zero kvs)).length ≤ (foldB r Bs.zero kvs).ps.length + 4 := by unfold psOf; split <;> simp [be4]
  unfold fullB at hf
  rw [decide_eq_true_iff] at hf
  simp only [esOf, recL, List.length_append, List.length_drop] at hf l2
  refine ⟨fun h0 => ?_, by omega⟩
  rw [h0] at hf hp
  simp only [foldB, Bs.zero, List.length_nil] at hf hp
  simp only [h0, foldB, Bs.zero] at l1 l2
  omega
theorem Lg.add {W wr wx : World} {g r k : Nat} {kvs : List (List Nat × List Nat)} {ve vp vl ve' vp' vl' : Value} (h : Lg W g r wr k kvs ve vp vl) (hk : k ≤ 200) {V : List Nat} (hVb : Bys V) (hV : V.length ≤ 4096) (hf : fullB r (foldB r Bs.zero kvs) (atK (1000 - (k : Int))) V = false) (hb : Bd wx W.heap.size g r (addB r (foldB r Bs.zero kvs) (atK (1000 - (k : Int))) V) ve' vp' vl') (hbel : Below W.heap.size W wx) : Lg W g r wx (k + 1) (kvs ++ [(atK (1000 - (k : Int)), V)]) ve' vp' vl' := by
  have hc : checkS (aeD (.slice none 0 0) (.slice none 0 0) (.slice none 0 0) (1000 - (k : Int)) V) = 0 := ae_check _ _ _ _ V (by omega) hV
  have e : foldB r Bs.zero (kvs ++ [(atK (1000 - (k : Int)), V)]) = addB r (foldB r Bs.zero kvs) (atK (1000 - (k : Int))) V := by rw [foldB_app]; rfl
  refine ⟨by rw [e]; exact hb, by simp; have := h.len; omega, fun _ k => by simp at k, fun kv hkv => ?_, up_snoc _ _ _ h.up ?_, .inr ⟨k, by omega, lastK_snoc _ _⟩, fun kv hkv => ?_, .inr ?_, hbel⟩
  · rcases List.mem_append.1 hkv with q | q
    · exact h.ok kv q
    · simp at q
      rw [q]
      exact ok_of_check hc
  · have := h.key hk
    rw [fold_last] at this
    by_cases h0 : kvs = []
    · rw [if_pos h0]; rw [h0] at this; exact this
    · rw [if_neg h0]; exact this
  · rcases List.mem_append.1 hkv with q | q
    · exact h.by_ kv q
    · simp at q
      rw [q]
      refine ⟨keyL_bys (e := aeD (.slice none 0 0) (.slice none 0 0) (.slice none 0 0) (1000 - (k : Int)) V) (fun x hx => by simp [aeD] at hx; omega) (fun x hx => by simp [aeD] at hx; omega) hc, hVb, ?_, ?_⟩
      · have := atK_len (1000 - (k : Int)); simp only; omega
      · simp only; omega
  · rw [e]
    unfold fullB at hf
    rw [decide_eq_false_iff_not] at hf
    simp only [addB]
    omega
theorem Lg.blad {W wr : World} {g r k : Nat} {kvs : List (List Nat × List Nat)} {ve vp vl : Value} (h : Lg W g r wr k kvs ve vp vl) (h1 : 1 ≤ r) (h16 : r ≤ 16) (hk : 1 ≤ k) : Blad r kvs (foldB r Bs.zero kvs).es (foldB r Bs.zero kvs).ps := ⟨h1, h16, rfl, rfl, h.ok, h.up, h.some_ hk, (h.sz.resolve_left (h.some_ hk))⟩
theorem Lg.start {W wr : World} {g r : Nat} (hg : W.heap.size ≤ g) (h : BBox wr g (r : Int) 0 (.slice none 0 0) (.slice none 0 0) (.slice none 0 0)) (hb : Below W.heap.size W wr) : Lg W g r wr 0 [] (.slice none 0 0) (.slice none 0 0) (.slice none 0 0) :=
  ⟨bd_zero h hg, Nat.le_refl _, fun k => by omega, (fun kv hkv => by cases hkv), trivial, .inl rfl, (fun kv hkv => by cases hkv), .inl rfl, hb⟩
end Go.Proofs.YtjpklncfmbjicaaDoor
