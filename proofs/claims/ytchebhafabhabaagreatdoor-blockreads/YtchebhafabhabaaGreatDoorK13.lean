import Derived.Test.YtchebhafabhabaaGreatDoorK12
namespace Go.Proofs.YtchebhafabhabaaGreatDoor
open Go.RowKit Go.Shelf
set_option linter.unusedVariables false

theorem key_nil (e : EntD) : ordC [] (keyL e) = -1 := by
 cases h : keyL e with
 | nil => have := keyL_last e; rw [h] at this; cases this
 | cons x t => rfl
theorem rec_few {r : Nat} {s : Bs} {e : EntD} (h : checkS e = 0) : (esOf r s (keyL e) e.val).length + (psOf r s).length ≤ s.es.length + s.ps.length + 6200 := by
 have h1 := keyL_len h
 have h2 := (check_facts h).2.2.2.2.2.2.2.1
 have l1 := (uintL_len (shOf r s (keyL e))).2
 have l2 := (uintL_len ((keyL e).drop (shOf r s (keyL e))).length).2
 have l3 := (uintL_len e.val.length).2
 have hp : (psOf r s).length ≤ s.ps.length + 4 := by unfold psOf; split <;> simp [be4]
 simp only [esOf, recL, List.length_append, List.length_drop] at *
 omega
theorem bld_few (r : Nat) : ∀ (l : List EntD) (s : Bs), (∀ e ∈ l, checkS e = 0) → Up s.la (kvL l) → s.es.length + s.ps.length + 9 + l.length * 6200 ≤ 131072 → (bldS r s l).1 = 0
 | [], s, _, _, _ => rfl
 | e :: t, s, hc, hu, hl => by
  have h0 := hc e (by simp)
  have hr := rec_few (r := r) (s := s) h0
  simp only [List.length_cons] at hl
  have e1 : addE r s e = (0, addB r s (keyL e) e.val) := by
   unfold addE
   have hu1 : ordC s.la (keyL e) < 0 := hu.1
   rw [if_neg (fun k => k h0), if_neg (by rw [ordC_swap s.la (keyL e)]; omega), if_neg]
   unfold fullB
   rw [decide_eq_true_iff]
   omega
  simp only [bldS, e1, if_true]
  refine bld_few r t _ (fun x hx => hc x (by simp [hx])) hu.2 ?_
  simp only [addB]
  omega
theorem cmp_at (a b c a' b' c' : Value) (s t : Int) : compareS (atD a b c s) (atD a' b' c' t) = cmpI t s := by
 unfold compareS cmpsS atD
 simp [firstNZ, ordC, aheadS, cmpI]
 exact fun h => h.symm
theorem check_at (a b c : Value) (s : Int) (h : 1 ≤ s ∧ s ≤ 1000) : checkS (atD a b c s) = 0 := by
 unfold checkS atD
 simp
 omega
theorem at_list (a1 b1 c1 a2 b2 c2 a3 b3 c3 : Value) : (∀ e ∈ [atD a1 b1 c1 5, atD a2 b2 c2 4, atD a3 b3 c3 3], checkS e = 0) ∧ Up [] (kvL [atD a1 b1 c1 5, atD a2 b2 c2 4, atD a3 b3 c3 3]) ∧ (bldS 2 Bs.zero [atD a1 b1 c1 5, atD a2 b2 c2 4, atD a3 b3 c3 3]).1 = 0 := by
 have hc : ∀ e ∈ [atD a1 b1 c1 5, atD a2 b2 c2 4, atD a3 b3 c3 3], checkS e = 0 := by
  intro e he
  simp only [List.mem_cons, List.not_mem_nil, or_false] at he
  rcases he with rfl | rfl | rfl <;> exact check_at _ _ _ _ (by omega)
 have hu : Up [] (kvL [atD a1 b1 c1 5, atD a2 b2 c2 4, atD a3 b3 c3 3]) := by
  refine ⟨?_, ?_, ?_, trivial⟩
  ·show ordC [] (keyL _) < 0
   rw [key_nil]; omega
  ·show ordC (keyL _) (keyL _) < 0
   rw [key_ord (hc _ (by simp)) (hc _ (by simp)), cmp_at]; decide
  ·show ordC (keyL _) (keyL _) < 0
   rw [key_ord (hc _ (by simp)) (hc _ (by simp)), cmp_at]; decide
 exact ⟨hc, hu, bld_few 2 _ _ hc hu (by simp [Bs.zero])⟩
theorem same_key {a b : EntD} (ha : checkS a = 0) (hb : checkS b = 0) (hk : keyL a = keyL b) (hv : a.val = b.val) : EntD.Same a b := by
 have h := key_ord ha hb
 rw [hk, ordC_self] at h
 have hz : ∀ (l : List Int), firstNZ l = 0 → ∀ x ∈ l, x = 0 := by
  intro l
  induction l with
  | nil => intro _ x hx; cases hx
  | cons y t ih =>
   intro h x hx
   unfold firstNZ at h
   split at h
   ·rename_i hy
    rcases List.mem_cons.1 hx with rfl | hx
    ·exact hy
    ·exact ih h x hx
   ·rename_i hy; exact absurd h hy
 have hall := hz _ h.symm
 simp only [cmpsS, List.mem_cons, List.not_mem_nil, or_false, forall_eq_or_imp, forall_eq] at hall
 obtain ⟨h1, h2, h3, h4, h5, h6, h7, h8⟩ := hall
 have cz : ∀ x y : Int, cmpI x y = 0 → x = y := by
  intro x y h
  unfold cmpI at h
  split at h
  ·cases h
  ·split at h
   ·cases h
   ·omega
 exact ⟨cz _ _ h2, (cz _ _ h6).symm, (cz _ _ h7).symm, cz _ _ h8, ordC_eq _ _ h1, ordC_eq _ _ h4, hv⟩
set_option maxRecDepth 100000 in
theorem seq_nil5 (f : Nat) (lb : Array Value) (w : World) : Sem.run Tryz.prog (binOp BinOp.eql 67 (.func (.func f) #[] lb) .nilFunc) w = .ok (.bool false) w := by rfl
set_option maxRecDepth 100000 in
theorem len5_any {w : World} {g : Nat} {r n : Int} {ve vp : Value} (h : LBox w g r n ve vp) : Calls Tryz.prog 29 #[.pointer (some ⟨g, 0, none⟩)] w fun e w' => e = .returned (.int .i64 n) ∧ w' = w := by
 obtain ⟨c0, c1, c2, c3⟩ := h.cells
 clear h
 go_enter Tryz.func29, Tryz.ntmps29
 go_wp2
 go_ret
 exact ⟨rfl, rfl⟩
set_option maxRecDepth 100000 in
theorem all5_any {w : World} {g : Nat} : Calls Tryz.prog 32 #[.pointer (some ⟨g, 0, none⟩)] w fun e w' => e = .returned (.func (.func 73) #[] #[.pointer (some ⟨w.heap.size, 0, none⟩)]) ∧ w' = w.alloc (.cells #[.pointer (some ⟨g, 0, none⟩)] 58) := by
 go_enter Tryz.func32, Tryz.ntmps32
 go_wp2
 go_ret
 exact ⟨rfl, rfl⟩
end Go.Proofs.YtchebhafabhabaaGreatDoor
