import Derived.Test.YtchebhafabhabaaGreatDoorK14
namespace Go.Proofs.YtchebhafabhabaaGreatDoor
open Go.RowKit Go.Shelf
set_option linter.unusedVariables false

theorem bldS_snoc (r : Nat) {e : EntD} {s s' : Bs} : ∀ (t : List EntD) (s0 : Bs), bldS r s0 t = (0, s) → addE r s e = (0, s') → bldS r s0 (t ++ (some e).toList) = (0, s')
 | [], s0, h, k => by
  simp only [bldS, Prod.mk.injEq, true_and] at h
  subst h
  simp [bldS, k]
 | x :: t, s0, h, k => by
  simp only [List.cons_append, bldS] at h ⊢
  split at h
  ·rename_i q
   rw [if_pos q]
   exact bldS_snoc r t _ h k
  ·rename_i q
   simp only [Prod.mk.injEq] at h
   exact absurd h.1 q
theorem bldS_app (r : Nat) {s : Bs} : ∀ (t u : List EntD) (s0 : Bs), bldS r s0 t = (0, s) → bldS r s0 (t ++ u) = bldS r s u
 | [], u, s0, h => by
  simp only [bldS, Prod.mk.injEq, true_and] at h
  subst h
  rfl
 | x :: t, u, s0, h => by
  simp only [List.cons_append, bldS] at h ⊢
  split at h
  ·rename_i q
   rw [if_pos q]
   exact bldS_app r t u _ h
  ·rename_i q
   simp only [Prod.mk.injEq] at h
   exact absurd h.1 q
theorem bldS_fail (r : Nat) (l : List EntD) (k : Nat) {e : EntD} {s : Bs} {c : Nat} (he : l[k]? = some e) (hs : bldS r Bs.zero (l.take k) = (0, s)) (hc : c ≠ 0) (ha : (addE r s e).1 = c) : (bldS r Bs.zero l).1 = c := by
 have hk := (List.getElem?_eq_some_iff.1 he).1
 have e1 : l = l.take k ++ (e :: l.drop (k + 1)) := by
  have h2 := (List.getElem?_eq_some_iff.1 he).2
  rw [← h2, List.getElem_cons_drop hk, List.take_append_drop]
 rw [e1, bldS_app r _ _ _ hs]
 simp only [bldS]
 rw [if_neg (by rw [ha]; exact hc), ha]
theorem addE_good {r : Nat} {s : Bs} {e : EntD} (h : checkS e = 0) (h2 : ¬ ordC (keyL e) s.la ≤ 0) (h3 : fullB r s (keyL e) e.val = false) : addE r s e = (0, addB r s (keyL e) e.val) := by
 unfold addE
 rw [if_neg (by omega), if_neg h2, if_neg (by rw [h3]; decide)]
theorem addE_full {r : Nat} {s : Bs} {e : EntD} (h : checkS e = 0) (h2 : ¬ ordC (keyL e) s.la ≤ 0) (h3 : fullB r s (keyL e) e.val = true) : (addE r s e).1 = 53 := by
 unfold addE
 rw [if_neg (by omega), if_neg h2, if_pos h3]
theorem addE_ord {r : Nat} {s : Bs} {e : EntD} (h : checkS e = 0) (h2 : ordC (keyL e) s.la ≤ 0) : (addE r s e).1 = 30 := by
 unfold addE
 rw [if_neg (by omega), if_pos h2]
theorem addE_bad {r : Nat} {s : Bs} {e : EntD} (h : checkS e ≠ 0) : (addE r s e).1 = checkS e := by
 unfold addE
 rw [if_pos h]
theorem lastK_snoc : ∀ (l : List (List Nat × List Nat)) (x : List Nat × List Nat), lastK (l ++ [x]) = x.1
 | [], x => rfl
 | [y], x => rfl
 | y :: z :: t, x => by
  have := lastK_snoc (z :: t) x
  simpa [lastK] using this
structure Bz2 (W : World) (r : Nat) (l : List EntD) (wr : World) (k : Nat) (vl : Value) (sz nl : Nat) : Prop where
 st : ∃ s, bldS r Bs.zero (l.take k) = (0, s) ∧ sz = s.es.length + s.ps.length + 9 ∧ nl = s.la.length ∧ Own wr W.heap.size vl nl s.la ∧ Bys s.la ∧ Below W.heap.size W wr
def RbA (W : World) (r : Nat) (l : List EntD) (x : Ending) (w' : World) : Prop := Below W.heap.size W w' ∧ ∃ a m c, ∃ E : Nat, x = .returned (.tuple #[.slice a m c, .int .i64 (E : Int)]) ∧ ((bldS r Bs.zero l).1 ≠ 0 → E = (bldS r Bs.zero l).1 ∧ Value.slice a m c = .slice none 0 0) ∧ ((bldS r Bs.zero l).1 = 0 → l = [] → E = 54 ∧ Value.slice a m c = .slice none 0 0) ∧ ((bldS r Bs.zero l).1 = 0 → l ≠ [] → E = 0 ∧ Own w' W.heap.size (.slice a m c) m (blockL (bldS r Bs.zero l).2.es (bldS r Bs.zero l).2.ps l.length r))
theorem RbA.err {W w' : World} {r : Nat} {l : List EntD} {e : Nat} (hb : Below W.heap.size W w') (h : (bldS r Bs.zero l).1 = e) (he : e ≠ 0) : RbA W r l (.returned (.tuple #[.slice none 0 0, .int .i64 (e : Int)])) w' := ⟨hb, none, 0, 0, e, rfl, fun _ => ⟨h.symm, rfl⟩, fun k => absurd (h.symm.trans k) he, fun k => absurd (h.symm.trans k) he⟩
set_option maxRecDepth 100000 in
set_option maxHeartbeats 8000000 in
theorem refBuild5_any {W : World} {a : Option Addr} {cap r : Nat} {l : List EntD} (hr : RdL5 W a cap l) (hr1 : 1 ≤ r) (hr16 : r ≤ 16) (hl17 : l.length ≤ 131072) :
  Calls Tryz.prog 19 #[.int .i64 (r : Int), .slice a l.length cap] W fun x w' => RbA W r l x w' := by
 obtain ⟨N, hN⟩ : ∃ N, N = l.length := ⟨_, rfl⟩
 rw [← hN]
 have hN17 : N ≤ 131072 := by omega
 have hr0 : ¬ (r : Int) = 0 := by omega
 have HN := Lib.hid hN
 have HR := Lib.hid hr
 have H0 : Hid (∀ wx, Below W.heap.size W wx → Bz2 W r l wx 0 (.slice none 0 0) 9 0) := fun wx hx => ⟨Bs.zero, rfl, rfl, rfl, ownNil _ _, (fun x hx => by cases hx), hx⟩
 have HBg : Hid (Calls Tryz.prog 9 #[.int .i64 (r : Int)] W fun e w' => e = .returned (.int .i64 0) ∧ w' = W) := by
  have := begin5_any (r : Int) W
  rw [if_pos (by omega)] at this
  exact this
 clear hN hr hl17
 go_enter Tryz.func19, Tryz.ntmps19
 go_wp2_with fail
 refine Calls.mono HBg.out ?_
 rintro z W0 ⟨rfl, rfl⟩
 clear HBg
 go_wp2
 go_loopw [6, 7, 8, 9, 10, 11, 12] (fun _ sv vl iv _ _ _ wr => ∃ (k sz nl : Nat) (al : Option Addr) (cl : Nat), k ≤ N ∧ iv = .int .i64 (k : Int) ∧ sv = .int .i64 (sz : Int) ∧ vl = .slice al nl cl ∧ Hid (Bz2 W0 r l wr k (.slice al nl cl) sz nl)) (fun _ _ _ iv _ _ _ _ => N - (intOf iv).toNat)
 case atStart => exact ⟨0, 9, 0, none, 0, Nat.zero_le _, rfl, rfl, rfl, H0.out _ (Below.refl _ _)⟩
 case round =>
  clear H0
  obtain ⟨k, sz, nl, al, cl, hk, rfl, rfl, rfl, HU⟩ := hrel
  have k0 : (0 : Int) ≤ (k : Int) := by omega
  by_cases hlt : k < N
  ·have hlt2 : (k : Int) < (N : Int) := by omega
   have hl2 : k < l.length := by rw [← HN.out]; exact hlt
   obtain ⟨e, he⟩ : ∃ e, l[k]? = some e := ⟨l[k], List.getElem?_eq_getElem hl2⟩
   obtain ⟨s, hs, hsz, hnl, hown, hbyl, hbel⟩ := HU.out.st
   have hrd := HR.out.later hbel
   have hok := hrd.ok e (List.mem_of_getElem? he)
   obtain ⟨b, off, rfl, d0, d1, d2, d3, d4, d5, d6⟩ := hrd.cel he
   have hcap := hrd.cap
   obtain ⟨hfo, hcs, hups, hszs⟩ := bldS_fold r (l.take k) Bs.zero (by rw [hs])
   rw [hs] at hfo
   simp only at hfo
   have hsn : s.n = k := by rw [hfo, foldB_n, kvL_len]; simp [Bs.zero]; omega
   have hsz17 : sz ≤ 131072 := by
    rw [hsz, hfo]
    rcases hszs with h0 | h0
    ·rw [h0]; simp [kvL, foldB, Bs.zero]
    ·omega
   obtain ⟨_, p1, q1, e1, -⟩ := hok.1
   obtain ⟨_, p2, q2, e2, -⟩ := hok.2.1
   obtain ⟨_, p3, q3, e3, -⟩ := hok.2.2
   have hce : e.cells = #[.slice p1 e.row.length q1, .int .i64 e.fam, .slice p2 e.qual.length q2, .int .i64 e.ts, .int .i64 e.seq, .int .i64 e.kind, .slice p3 e.val.length q3] := by unfold EntD.cells; rw [e1, e2, e3]
   obtain ⟨z1, hz1⟩ : ∃ z, z = e.row.length := ⟨_, rfl⟩
   obtain ⟨z2, hz2⟩ : ∃ z, z = e.qual.length := ⟨_, rfl⟩
   obtain ⟨z3, hz3⟩ : ∃ z, z = e.val.length := ⟨_, rfl⟩
   rw [e1, ← hz1] at d0
   rw [e2, ← hz2] at d2
   rw [e3, ← hz3] at d6
   rw [← hz1, ← hz2, ← hz3] at hce
   obtain ⟨K, hKK⟩ : ∃ K, keyL e = K := ⟨_, rfl⟩
   obtain ⟨V, hVV⟩ : ∃ V, e.val = V := ⟨_, rfl⟩
   have HCk : Hid (Calls Tryz.prog 47 #[.agg #[.slice p1 z1 q1, .int .i64 e.fam, .slice p2 z2 q2, .int .i64 e.ts, .int .i64 e.seq, .int .i64 e.kind, .slice p3 z3 q3]] wr fun r w' => r = .returned (.int .i64 ((checkS e : Nat) : Int)) ∧ Below wr.heap.size wr w') := by
    have h := refCheck_any hok
    rw [hce] at h
    exact h
   rcases Decidable.em (checkS e ≠ 0) with hce0 | hcex
   ·have HEnd : Hid (∀ X1, Below wr.heap.size wr X1 → RbA W0 r l (.returned (.tuple #[.slice none 0 0, .int .i64 ((checkS e : Nat) : Int)])) X1) := fun X1 b => RbA.err (hbel.trans (b.mono hbel.size)) (bldS_fail r l k he hs hce0 (addE_bad hce0)) hce0
    obtain ⟨ec, hec⟩ : ∃ ec, ec = checkS e := ⟨_, rfl⟩
    rw [← hec] at HCk HEnd hce0
    have heci : ¬ (ec : Int) = 0 := by omega
    clear HU hrd hok hs hsz hnl hown hbyl hbel hfo hcs hups hszs hsn hec he hl2 hz1 hz2 hz3 hce e1 e2 e3 hKK hVV
    go_wp2_with fail
    refine Calls.mono HCk.out ?_
    rintro z X1 ⟨rfl, b1⟩
    have HEnd := Lib.hid (HEnd.out X1 b1)
    clear b1 HCk d0 d1 d2 d3 d4 d5 d6
    go_wp2
    go_ret2
    exact HEnd.out
   have hce0 : checkS e = 0 := Decidable.not_not.1 hcex
   clear hcex
   rw [hce0] at HCk
   have hKb : Bys (keyL e) := keyL_bys hok.1.1 hok.2.1.1 hce0
   have hKl := keyL_len hce0
   have hV := (check_facts hce0).2.2.2.2.2.2.2.1
   have HKy : Hid (∀ wx, Below W0.heap.size W0 wx → Calls Tryz.prog 35 #[.agg #[.slice p1 z1 q1, .int .i64 e.fam, .slice p2 z2 q2, .int .i64 e.ts, .int .i64 e.seq, .int .i64 e.kind, .slice p3 z3 q3]] wx fun r w' => ∃ a m c, r = .returned (.tuple #[.slice a m c, .int .i64 0]) ∧ Own w' wx.heap.size (.slice a m c) m K ∧ Below wx.heap.size wx w') := fun wx hx => by
    have h := refKey_ok ((HR.out.later hx).ok e (List.mem_of_getElem? he)) hce0
    rw [hce, hKK] at h
    exact h
   rw [hKK] at hKb hKl
   have hzv : e.val.length = z3 := hz3.symm
   rw [hVV] at hV
   have HVa : Hid (∀ wx, Below W0.heap.size W0 wx → wx.cell? ⟨b, off + k * 7 + 6, none⟩ = some (.slice p3 z3 q3) ∧ Rd wx (.slice p3 z3 q3) V) := fun wx hx => by
    have h := HR.out.later hx
    obtain ⟨b', off', heq, _, _, _, _, _, _, f6⟩ := h.cel he
    cases heq
    have hv := (h.ok e (List.mem_of_getElem? he)).2.2
    rw [e3, hzv, hVV] at hv
    rw [e3, hzv] at f6
    exact ⟨f6, hv⟩
   have HD : Hid (_ ∧ _ ∧ _ ∧ _ ∧ _ ∧ _ ∧ _) := ⟨d0, d1, d2, d3, d4, d5, d6⟩
   have HE : Hid (l[k]? = some e ∧ keyL e = K ∧ e.val = V ∧ bldS r Bs.zero (l.take k) = (0, s) ∧ s.n = k ∧ Bys K ∧ sz = s.es.length + s.ps.length + 9) := ⟨he, hKK, hVV, hs, hsn, hKb, hsz⟩
   have HSt := Lib.hid (And.intro hnl (And.intro hown (And.intro hbyl hbel)))
   have HFo := Lib.hid (And.intro hfo hcs)
   have HOk := Lib.hid hok
   have HCe := Lib.hid (And.intro hce hce0)
   have hz3l : z3 ≤ 4096 := by rw [← hzv, hVV]; exact hV
   clear hrd he hok hce0 hz1 hz2 hz3 hce e1 e2 e3 hs hsz hnl hown hbyl hbel hKK hVV hsn hKb HU hl2 hzv hfo hcs hups hszs
   go_wp2_with fail
   refine Calls.mono HCk.out ?_
   rintro z X1 ⟨rfl, b1⟩
   have HB1 := Lib.hid (HSt.out.2.2.2.trans (b1.mono HSt.out.2.2.2.size))
   have HO1 := Lib.hid (HSt.out.2.1.later b1)
   clear HCk d0 d1 d2 d3 d4 d5 d6
   go_upto_region 12 with fail
   have HVr : Hid (e.vr = .slice p1 z1 q1 ∧ e.vq = .slice p2 z2 q2 ∧ e.vv = .slice p3 z3 q3) := by
    have h := HCe.out.1
    unfold EntD.cells at h
    simp only [Array.mk.injEq, List.cons.injEq] at h
    exact ⟨h.1, h.2.2.1, h.2.2.2.2.2.2.1⟩
   by_cases hk0 : k = 0
   ·have hk0i : decide (0 < k) = false := by rw [decide_eq_false_iff_not]; omega
    have HLt : Hid (ordC s.la K < 0) := by
     have e1 := HFo.out.1
     rw [hk0] at e1
     have e2 : s.la = [] := by rw [e1]; rfl
     unfold Hid
     rw [e2, ← HE.out.2.1, key_nil]
     decide
    clear hk0
    go_quiet (fail)
    have bX2 := below_drewN (Below.refl X1.heap.size X1) nq
    generalize X1.drewN nq = X2 at *
    clear hk0i
    have HB2 := Lib.hid (HB1.out.trans (bX2.mono HB1.out.size))
    have HO2 := Lib.hid (HO1.out.later bX2)
    clear bX2
    obtain ⟨b', off', heq, x0, x1, x2, x3, x4, x5, x6⟩ := (HR.out.later HB2.out).cel HE.out.1
    cases heq
    rw [HVr.out.1] at x0
    rw [HVr.out.2.1] at x2
    rw [HVr.out.2.2] at x6
    go_wp2_with fail
    clear x0 x1 x2 x3 x4 x5 x6
    refine Calls.mono (HKy.out _ HB2.out) ?_
    rintro z X3 ⟨ak, mk, ck, rfl, ownK, b3⟩
    have hmk : Hid (mk = K.length) := ownK.1
    have hmk2 : mk ≤ 2000 := by rw [hmk.out]; exact hKl
    have rdK := ownK.rd HE.out.2.2.2.2.2.1 (by omega)
    have rdL := (HO2.out.later b3).rd HSt.out.2.2.1 (by
     have e1 := HFo.out.1
     have h1 : s.la.length ≤ s.es.length := by rw [e1]; exact fold_la r _ _ (Nat.le_refl _)
     have h2 := HE.out.2.2.2.2.2.2
     have h3 := HSt.out.1
     omega)
    have HSh := Lib.hid (shared5_any rdL rdK)
    obtain ⟨cm, hcm⟩ : ∃ cm, comL s.la K = cm := ⟨_, rfl⟩
    rw [hcm] at HSh
    have HCm := Lib.hid hcm
    have HKp : Hid (0 < K.length ∧ cm < K.length) := by
     have h1 : ordC s.la K < 0 := HLt.out
     have h2 := com_lt (a := s.la) (b := K) (by rw [ordC_swap s.la K]; omega)
     rw [hcm] at h2
     unfold Hid
     omega
    obtain ⟨gk, rfl⟩ : ∃ gk, ak = some ⟨gk, 0, none⟩ := by
     have h := ownK
     rcases ownNonil h with ⟨_, h0, _⟩ | h
     ·have := HKp.out; have := hmk.out; omega
     ·exact h
    have hmkc : mk ≤ ck := (rd_lens rdK).2.1
    have hcmk : cm < mk := by have := HKp.out; have := hmk.out; omega
    have HB3 := Lib.hid (HB2.out.trans (b3.mono HB2.out.size))
    have HOw3 := Lib.hid (And.intro (ownK.mono (B' := W0.heap.size) HB2.out.size) rdK)
    clear ownK b3 rdK rdL hcm HO2
    go_wp2_with fail
    refine Calls.mono HSh.out ?_
    rintro z X4 ⟨rfl, b4⟩
    have HB4 := Lib.hid (HB3.out.trans (b4.mono HB3.out.size))
    have HOk := Lib.hid (HOw3.out.1.later b4)
    have HRk := Lib.hid (HOw3.out.2.later b4)
    clear HSh HOw3 b4
    by_cases hz : k % r = 0
    ·have hzi : (((k : Int) % (r : Int)) == 0) = true := by rw [beq_iff_eq]; omega
     have HShv : Hid (shOf r s K = 0) := by unfold Hid shOf; rw [HE.out.2.2.2.2.1, if_pos hz]
     have HPs : Hid (psOf r s = s.ps ++ be4 s.es.length) := by unfold Hid psOf; rw [HE.out.2.2.2.2.1, if_pos hz]
     go_upto_region 19 with fail
     have BD : Below X4.heap.size X4 X4.drew := (Below.refl _ _).drew
     refine wp_region_noPanic ?_
     refine wp_region_held_drew (S := fun wx => Below X4.heap.size X4 wx) (by kernel_rfl) BD (fun hHeld => ?_)
     refine wpAnyH_take (i := 0) (oi := { dst := some 64, op := _, type := _, pos := _, after := _, guard := _ }) (v := .int .i64 ((sz + 4 : Nat) : Int)) rfl (by kernel_rfl) (by kernel_rfl) (by kernel_rfl) (fun _ _ _ h => h) (Or.inl ⟨by kernel_rfl, fun wy hy => by (go_simp; first | done | decide | omega | exact uint_small (by omega) | (rw [if_pos (by omega), if_neg (by omega)]) | exact IntWalk.i64_in _ ⟨by omega, by omega⟩)⟩) (by assumption) ?_
     try simp only [Act.put, List.setIfInBounds_toArray, List.set_cons_zero, List.set_cons_succ]
     refine wpAnyH_take (i := 1) (oi := { dst := some 65, op := _, type := _, pos := _, after := _, guard := _ }) (v := .int .i64 0) rfl (by kernel_rfl) (by kernel_rfl) (by kernel_rfl) (fun _ _ _ h => h) (Or.inl ⟨by kernel_rfl, fun wy hy => by (go_simp; first | done | decide | omega | exact uint_small (by omega) | (rw [if_pos (by omega), if_neg (by omega)]) | exact IntWalk.i64_in _ ⟨by omega, by omega⟩)⟩) (by assumption) ?_
     try simp only [Act.put, List.setIfInBounds_toArray, List.set_cons_zero, List.set_cons_succ]
     refine wpAnyH_take (i := 2) (oi := { dst := some 66, op := _, type := _, pos := _, after := _, guard := _ }) (v := .int .u64 0) rfl (by kernel_rfl) (by kernel_rfl) (by kernel_rfl) (fun _ _ _ h => h) (Or.inl ⟨by kernel_rfl, fun wy hy => by (go_simp; first | done | decide | omega | exact uint_small (by omega) | (rw [if_pos (by omega), if_neg (by omega)]) | exact IntWalk.i64_in _ ⟨by omega, by omega⟩)⟩) (by assumption) ?_
     try simp only [Act.put, List.setIfInBounds_toArray, List.set_cons_zero, List.set_cons_succ]
     refine wpAnyH_take (i := 6) (oi := { dst := some 70, op := _, type := _, pos := _, after := _, guard := _ }) (v := .slice (some ⟨gk, 0, none⟩) mk ck) rfl (by kernel_rfl) (by kernel_rfl) (by kernel_rfl) (fun _ _ _ h => h) (Or.inl ⟨by kernel_rfl, fun wy hy => by (go_simp; first | done | decide | omega | exact uint_small (by omega) | (rw [if_pos (by omega), if_neg (by omega)]) | exact IntWalk.i64_in _ ⟨by omega, by omega⟩)⟩) (by assumption) ?_
     try simp only [Act.put, List.setIfInBounds_toArray, List.set_cons_zero, List.set_cons_succ]
     refine wpAnyH_take (i := 7) (oi := { dst := some 71, op := _, type := _, pos := _, after := _, guard := _ }) (v := .int .i64 0) rfl (by kernel_rfl) (by kernel_rfl) (by kernel_rfl) (fun _ _ _ h => h) (Or.inl ⟨by kernel_rfl, fun wy hy => by (go_simp; first | done | decide | omega | exact uint_small (by omega) | (rw [if_pos (by omega), if_neg (by omega)]) | exact IntWalk.i64_in _ ⟨by omega, by omega⟩)⟩) (by assumption) ?_
     try simp only [Act.put, List.setIfInBounds_toArray, List.set_cons_zero, List.set_cons_succ]
     refine wpAnyH_take (i := 8) (oi := { dst := some 72, op := _, type := _, pos := _, after := _, guard := _ }) (v := .slice (some ⟨gk, 0, none⟩) mk ck) rfl (by kernel_rfl) (by kernel_rfl) (by kernel_rfl) (fun _ _ _ h => h) (Or.inl ⟨by kernel_rfl, fun wy hy => by (go_simp; first | done | decide | omega | exact uint_small (by omega) | (rw [if_pos (by omega), if_neg (by omega)]) | exact IntWalk.i64_in _ ⟨by omega, by omega⟩)⟩) (by assumption) ?_
     try simp only [Act.put, List.setIfInBounds_toArray, List.set_cons_zero, List.set_cons_succ]
     refine wpAnyH_take (i := 12) (oi := { dst := some 76, op := _, type := _, pos := _, after := _, guard := _ }) (v := .slice (some ⟨b, off, none⟩) N cap) rfl (by kernel_rfl) (by kernel_rfl) (by kernel_rfl) (fun _ _ _ h => h) (Or.inl ⟨by kernel_rfl, fun wy hy => by (go_simp; first | done | decide | omega | exact uint_small (by omega) | (rw [if_pos (by omega), if_neg (by omega)]) | exact IntWalk.i64_in _ ⟨by omega, by omega⟩)⟩) (by assumption) ?_
     try simp only [Act.put, List.setIfInBounds_toArray, List.set_cons_zero, List.set_cons_succ]
     refine wpAnyH_take (i := 13) (oi := { dst := some 77, op := _, type := _, pos := _, after := _, guard := _ }) (v := .int .i64 (k : Int)) rfl (by kernel_rfl) (by kernel_rfl) (by kernel_rfl) (fun _ _ _ h => h) (Or.inl ⟨by kernel_rfl, fun wy hy => by (go_simp; first | done | decide | omega | exact uint_small (by omega) | (rw [if_pos (by omega), if_neg (by omega)]) | exact IntWalk.i64_in _ ⟨by omega, by omega⟩)⟩) (by assumption) ?_
     try simp only [Act.put, List.setIfInBounds_toArray, List.set_cons_zero, List.set_cons_succ]
     refine wpAnyH_take (i := 14) (oi := { dst := some 78, op := _, type := _, pos := _, after := _, guard := _ }) (v := .pointer (some ⟨b, off + k * 7, none⟩)) rfl (by kernel_rfl) (by kernel_rfl) (by kernel_rfl) (fun _ _ _ h => h) (Or.inl ⟨by kernel_rfl, fun wy hy => by (go_simp; first | done | decide | omega | exact uint_small (by omega) | (rw [if_pos (by omega), if_neg (by omega)]) | exact IntWalk.i64_in _ ⟨by omega, by omega⟩)⟩) (by assumption) ?_
     try simp only [Act.put, List.setIfInBounds_toArray, List.set_cons_zero, List.set_cons_succ]
     refine wpAnyH_take (i := 15) (oi := { dst := some 79, op := _, type := _, pos := _, after := _, guard := _ }) (v := .pointer (some ⟨b, off + k * 7 + 6, none⟩)) rfl (by kernel_rfl) (by kernel_rfl) (by kernel_rfl) (fun _ _ _ h => h) (Or.inl ⟨by kernel_rfl, fun wy hy => by (go_simp; first | done | decide | omega | exact uint_small (by omega) | (rw [if_pos (by omega), if_neg (by omega)]) | exact IntWalk.i64_in _ ⟨by omega, by omega⟩)⟩) (by assumption) ?_
     try simp only [Act.put, List.setIfInBounds_toArray, List.set_cons_zero, List.set_cons_succ]
     refine wpAnyH_take (i := 16) (oi := { dst := some 80, op := _, type := _, pos := _, after := _, guard := _ }) (v := .slice p3 z3 q3) rfl (by kernel_rfl) (by kernel_rfl) (by kernel_rfl) (fun _ _ _ h => h) (Or.inl ⟨by kernel_rfl, fun wy hy => by (have f6 := (HVa.out _ (HB4.out.trans (hy.mono HB4.out.size))).1; go_simp; done)⟩) (by assumption) ?_
     try simp only [Act.put, List.setIfInBounds_toArray, List.set_cons_zero, List.set_cons_succ]
     have hU0 : ∀ wx, Below X4.heap.size X4 wx → Calls Tryz.prog 59 #[.int .u64 0] wx fun e w' => ∃ a m c, e = .returned (.slice a m c) ∧ Own w' wx.heap.size (.slice a m c) m (uintL 0) ∧ Below wx.heap.size wx w' := fun wx _ => by
      have := refUint_any 0 (by have := HKp.out; omega) wx
      simpa using this
     refine wpAnyH_ready (rs := [3]) (by kernel_rfl) (by simp) ?_
     refine AllReadyH.cons (o := { dst := some 67, op := _, type := _, pos := _, after := _, guard := _ }) rfl (fun KK hK => ?_) AllReadyH.nil
     go_simp
     go_at_call 59
     refine (hU0 _ BD).mono ?_
     rintro e9 Y1 ⟨au, mu, cu, rfl, ownu, hbu⟩
     have bY1 : Below X4.heap.size X4 Y1 := BD.trans (hbu.mono BD.size)
     have hmu : Hid (mu = (uintL 0).length) := ownu.1
     have hmu10 : mu ≤ 10 := by rw [hmu.out]; exact (uintL_len _).2
     clear hbu ownu hU0 BD
     go_wp2_with fail
     refine hK.out _ _ bY1 (fun hHeld => ?_)
     clear hK
     try simp only [Act.put, List.setIfInBounds_toArray, List.set_cons_zero, List.set_cons_succ]
     refine wpAnyH_take (i := 4) (oi := { dst := some 68, op := _, type := _, pos := _, after := _, guard := _ }) (v := .int .i64 (mu : Int)) rfl (by kernel_rfl) (by kernel_rfl) (by kernel_rfl) (fun _ _ _ h => h) (Or.inl ⟨by kernel_rfl, fun wy hy => by (go_simp; first | done | decide | omega | exact uint_small (by omega) | (rw [if_pos (by omega), if_neg (by omega)]) | exact IntWalk.i64_in _ ⟨by omega, by omega⟩)⟩) (by assumption) ?_
     try simp only [Act.put, List.setIfInBounds_toArray, List.set_cons_zero, List.set_cons_succ]
     refine wpAnyH_take (i := 5) (oi := { dst := some 69, op := _, type := _, pos := _, after := _, guard := _ }) (v := .int .i64 ((sz + 4 + mu : Nat) : Int)) rfl (by kernel_rfl) (by kernel_rfl) (by kernel_rfl) (fun _ _ _ h => h) (Or.inl ⟨by kernel_rfl, fun wy hy => by (go_simp; first | done | decide | omega | exact uint_small (by omega) | (rw [if_pos (by omega), if_neg (by omega)]) | exact IntWalk.i64_in _ ⟨by omega, by omega⟩)⟩) (by assumption) ?_
     try simp only [Act.put, List.setIfInBounds_toArray, List.set_cons_zero, List.set_cons_succ]
     have rdKs : ∀ wx, Below X4.heap.size X4 wx → Rd wx (.slice (some ⟨gk, 0, none⟩) mk ck) (K.drop 0) := fun wx hx => by
      have h := (HRk.out.later hx).past 0 (by omega) (off' := 0 + 0) (n' := mk - 0) (cap' := ck - 0) rfl rfl rfl
      simpa using h
     refine wpAnyH_ready (rs := [9]) (by kernel_rfl) (by simp) ?_
     refine AllReadyH.cons (o := { dst := some 73, op := _, type := _, pos := _, after := _, guard := _ }) rfl (fun KK hK => ?_) AllReadyH.nil
     go_simp
     go_at_call 60
     refine (refBytes_any (rdKs _ bY1) (by rw [List.length_drop]; omega)).mono ?_
     rintro e9 Y2 ⟨aw, mw, cw, rfl, ownw, hbw⟩
     have bY2 : Below X4.heap.size X4 Y2 := bY1.trans (hbw.mono bY1.size)
     have hmw : Hid (mw = (bytesL (K.drop 0)).length) := ownw.1
     have hmw3 : mw ≤ 3000 := by
      have h1 := bytesL_len (K.drop 0)
      rw [← hmw.out, List.length_drop] at h1
      omega
     clear hbw ownw rdKs bY1
     go_wp2_with fail
     refine hK.out _ _ bY2 (fun hHeld => ?_)
     clear hK
     try simp only [Act.put, List.setIfInBounds_toArray, List.set_cons_zero, List.set_cons_succ]
     refine wpAnyH_take (i := 10) (oi := { dst := some 74, op := _, type := _, pos := _, after := _, guard := _ }) (v := .int .i64 (mw : Int)) rfl (by kernel_rfl) (by kernel_rfl) (by kernel_rfl) (fun _ _ _ h => h) (Or.inl ⟨by kernel_rfl, fun wy hy => by (go_simp; first | done | decide | omega | exact uint_small (by omega) | (rw [if_pos (by omega), if_neg (by omega)]) | exact IntWalk.i64_in _ ⟨by omega, by omega⟩)⟩) (by assumption) ?_
     try simp only [Act.put, List.setIfInBounds_toArray, List.set_cons_zero, List.set_cons_succ]
     refine wpAnyH_take (i := 11) (oi := { dst := some 75, op := _, type := _, pos := _, after := _, guard := _ }) (v := .int .i64 ((sz + 4 + mu + mw : Nat) : Int)) rfl (by kernel_rfl) (by kernel_rfl) (by kernel_rfl) (fun _ _ _ h => h) (Or.inl ⟨by kernel_rfl, fun wy hy => by (go_simp; first | done | decide | omega | exact uint_small (by omega) | (rw [if_pos (by omega), if_neg (by omega)]) | exact IntWalk.i64_in _ ⟨by omega, by omega⟩)⟩) (by assumption) ?_
     try simp only [Act.put, List.setIfInBounds_toArray, List.set_cons_zero, List.set_cons_succ]
     have rdV := (HVa.out _ (HB4.out.trans (bY2.mono HB4.out.size))).2
     refine wpAnyH_ready (rs := [17]) (by kernel_rfl) (by simp) ?_
     refine AllReadyH.cons (o := { dst := some 81, op := _, type := _, pos := _, after := _, guard := _ }) rfl (fun KK hK => ?_) AllReadyH.nil
     go_simp
     go_at_call 60
     refine (refBytes_any rdV (by have := (rd_lens rdV).1; omega)).mono ?_
     rintro e9 Y3 ⟨ax, mx, cx, rfl, ownx, hbx⟩
     have bY3 : Below X4.heap.size X4 Y3 := bY2.trans (hbx.mono bY2.size)
     have hmx : Hid (mx = (bytesL V).length) := ownx.1
     have hmx5 : mx ≤ 5000 := by
      have h1 := bytesL_len V
      rw [← hmx.out] at h1
      omega
     clear hbx ownx rdV bY2
     go_wp2_with fail
     refine hK.out _ _ bY3 (fun hHeld => ?_)
     clear hK
     try simp only [Act.put, List.setIfInBounds_toArray, List.set_cons_zero, List.set_cons_succ]
     refine wpAnyH_take (i := 18) (oi := { dst := some 82, op := _, type := _, pos := _, after := _, guard := _ }) (v := .int .i64 (mx : Int)) rfl (by kernel_rfl) (by kernel_rfl) (by kernel_rfl) (fun _ _ _ h => h) (Or.inl ⟨by kernel_rfl, fun wy hy => by (go_simp; first | done | decide | omega | exact uint_small (by omega) | (rw [if_pos (by omega), if_neg (by omega)]) | exact IntWalk.i64_in _ ⟨by omega, by omega⟩)⟩) (by assumption) ?_
     try simp only [Act.put, List.setIfInBounds_toArray, List.set_cons_zero, List.set_cons_succ]
     refine wpAnyH_take (i := 19) (oi := { dst := some 83, op := _, type := _, pos := _, after := _, guard := _ }) (v := .int .i64 ((sz + 4 + mu + mw + mx : Nat) : Int)) rfl (by kernel_rfl) (by kernel_rfl) (by kernel_rfl) (fun _ _ _ h => h) (Or.inl ⟨by kernel_rfl, fun wy hy => by (go_simp; first | done | decide | omega | exact uint_small (by omega) | (rw [if_pos (by omega), if_neg (by omega)]) | exact IntWalk.i64_in _ ⟨by omega, by omega⟩)⟩) (by assumption) ?_
     try simp only [Act.put, List.setIfInBounds_toArray, List.set_cons_zero, List.set_cons_succ]
     refine wpAnyH_take (i := 20) (oi := { dst := some 7, op := _, type := _, pos := _, after := _, guard := _ }) (v := .int .i64 ((sz + 4 + mu + mw + mx : Nat) : Int)) rfl (by kernel_rfl) (by kernel_rfl) (by kernel_rfl) (fun _ _ _ h => h) (Or.inl ⟨by kernel_rfl, fun wy hy => by (go_simp; first | done | decide | omega | exact uint_small (by omega) | (rw [if_pos (by omega), if_neg (by omega)]) | exact IntWalk.i64_in _ ⟨by omega, by omega⟩)⟩) (by assumption) ?_
     try simp only [Act.put, List.setIfInBounds_toArray, List.set_cons_zero, List.set_cons_succ]
     refine wpAnyH_done (by kernel_rfl) (NoPanic.normal ?_) _
     clear hHeld
     obtain ⟨sz2, hsz2⟩ : ∃ sz2, sz + 4 + mu + mw + mx = sz2 := ⟨_, rfl⟩
     have hz2 : Hid (sz2 = (addB r s K V).es.length + (addB r s K V).ps.length + 9) := by
      obtain ⟨e1, e2, e3, e4, e5, e6, e7⟩ := HE.out
      unfold Hid
      simp only [addB, esOf, recL]
      rw [HShv.out, HPs.out]
      have q1 := hmu.out
      have q2 := hmw.out
      have q3 := hmx.out
      unfold bytesL at q2 q3
      simp only [List.length_append, be4, List.length_cons, List.length_nil] at q2 q3 ⊢
      omega
     have hsr : (psOf r s).length = (addB r s K V).ps.length := rfl
     have hse : (esOf r s K V).length = (addB r s K V).es.length := rfl
     have HBY := Lib.hid (HB4.out.trans (bY3.mono HB4.out.size))
     have HFl : Hid (fullB r s K V = decide (131072 < sz2)) := by
      unfold Hid fullB
      rw [hz2.out, hsr, hse]
     clear hsr hse
     by_cases hz17 : sz2 ≤ 131072
     ·have hz17i : ¬ (131072 : Int) < (sz2 : Int) := by omega
      have HZ : Hid (Bz2 W0 r l Y3 (k + 1) (.slice (some ⟨gk, 0, none⟩) mk ck) sz2 mk) := by
       obtain ⟨e1, e2, e3, e4, e5, e6, e7⟩ := HE.out
       refine ⟨addB r s K V, ?_, hz2.out, hmk.out, ?_, e6, HBY.out⟩
       ·rw [List.take_add_one, e1]
        refine bldS_snoc r _ _ e4 ?_
        rw [← e2, ← e3]
        refine addE_good HCe.out.2 (by rw [e2, ordC_swap s.la K]; have := HLt.out; omega) ?_
        rw [e2, e3, HFl.out, decide_eq_false_iff_not]; omega
       ·have h := HOk.out.later bY3
        rw [hmk.out] at h ⊢
        exact h
      clear bY3
      go_simp
      go_step
      clear hsz2
      go_wp2
      go_roundw
      case rel => exact ⟨k + 1, sz2, mk, _, _, by omega, by go_num, rfl, rfl, HZ⟩
      case measure => simp only [intOf]; omega
     ·have hz17i : (131072 : Int) < (sz2 : Int) := by omega
      have HEnd : Hid (RbA W0 r l (.returned (.tuple #[.slice none 0 0, .int .i64 53])) Y3) := by
       obtain ⟨e1, e2, e3, e4, e5, e6, e7⟩ := HE.out
       refine RbA.err (e := 53) HBY.out ?_ (by decide)
       refine bldS_fail r l k e1 e4 (by decide) ?_
       refine addE_full HCe.out.2 (by rw [e2, ordC_swap s.la K]; have := HLt.out; omega) ?_
       rw [e2, e3, HFl.out, decide_eq_true_iff]; omega
      clear bY3
      go_simp
      go_step
      clear hsz2
      go_wp2
      go_ret2
      exact HEnd.out
    ·have hzi : (((k : Int) % (r : Int)) == 0) = false := by rw [beq_eq_false_iff_ne]; omega
     have HShv : Hid (shOf r s K = cm) := by unfold Hid shOf; rw [HE.out.2.2.2.2.1, if_neg hz]; exact HCm.out
     have HPs : Hid (psOf r s = s.ps) := by unfold Hid psOf; rw [HE.out.2.2.2.2.1, if_neg hz]
     go_upto_region 19 with fail
     have BD : Below X4.heap.size X4 X4.drew := (Below.refl _ _).drew
     refine wp_region_noPanic ?_
     refine wp_region_held_drew (S := fun wx => Below X4.heap.size X4 wx) (by kernel_rfl) BD (fun hHeld => ?_)
     refine wpAnyH_take (i := 0) (oi := { dst := some 64, op := _, type := _, pos := _, after := _, guard := _ }) (v := .int .i64 ((sz : Nat) : Int)) rfl (by kernel_rfl) (by kernel_rfl) (by kernel_rfl) (fun _ _ _ h => h) (Or.inl ⟨by kernel_rfl, fun wy hy => by (go_simp; first | done | decide | omega | exact uint_small (by omega) | (rw [if_pos (by omega), if_neg (by omega)]) | exact IntWalk.i64_in _ ⟨by omega, by omega⟩)⟩) (by assumption) ?_
     try simp only [Act.put, List.setIfInBounds_toArray, List.set_cons_zero, List.set_cons_succ]
     refine wpAnyH_take (i := 1) (oi := { dst := some 65, op := _, type := _, pos := _, after := _, guard := _ }) (v := .int .i64 (cm : Int)) rfl (by kernel_rfl) (by kernel_rfl) (by kernel_rfl) (fun _ _ _ h => h) (Or.inl ⟨by kernel_rfl, fun wy hy => by (go_simp; first | done | decide | omega | exact uint_small (by omega) | (rw [if_pos (by omega), if_neg (by omega)]) | exact IntWalk.i64_in _ ⟨by omega, by omega⟩)⟩) (by assumption) ?_
     try simp only [Act.put, List.setIfInBounds_toArray, List.set_cons_zero, List.set_cons_succ]
     refine wpAnyH_take (i := 2) (oi := { dst := some 66, op := _, type := _, pos := _, after := _, guard := _ }) (v := .int .u64 (cm : Int)) rfl (by kernel_rfl) (by kernel_rfl) (by kernel_rfl) (fun _ _ _ h => h) (Or.inl ⟨by kernel_rfl, fun wy hy => by (go_simp; first | done | decide | omega | exact uint_small (by omega) | (rw [if_pos (by omega), if_neg (by omega)]) | exact IntWalk.i64_in _ ⟨by omega, by omega⟩)⟩) (by assumption) ?_
     try simp only [Act.put, List.setIfInBounds_toArray, List.set_cons_zero, List.set_cons_succ]
     refine wpAnyH_take (i := 6) (oi := { dst := some 70, op := _, type := _, pos := _, after := _, guard := _ }) (v := .slice (some ⟨gk, 0, none⟩) mk ck) rfl (by kernel_rfl) (by kernel_rfl) (by kernel_rfl) (fun _ _ _ h => h) (Or.inl ⟨by kernel_rfl, fun wy hy => by (go_simp; first | done | decide | omega | exact uint_small (by omega) | (rw [if_pos (by omega), if_neg (by omega)]) | exact IntWalk.i64_in _ ⟨by omega, by omega⟩)⟩) (by assumption) ?_
     try simp only [Act.put, List.setIfInBounds_toArray, List.set_cons_zero, List.set_cons_succ]
     refine wpAnyH_take (i := 7) (oi := { dst := some 71, op := _, type := _, pos := _, after := _, guard := _ }) (v := .int .i64 (cm : Int)) rfl (by kernel_rfl) (by kernel_rfl) (by kernel_rfl) (fun _ _ _ h => h) (Or.inl ⟨by kernel_rfl, fun wy hy => by (go_simp; first | done | decide | omega | exact uint_small (by omega) | (rw [if_pos (by omega), if_neg (by omega)]) | exact IntWalk.i64_in _ ⟨by omega, by omega⟩)⟩) (by assumption) ?_
     try simp only [Act.put, List.setIfInBounds_toArray, List.set_cons_zero, List.set_cons_succ]
     refine wpAnyH_take (i := 8) (oi := { dst := some 72, op := _, type := _, pos := _, after := _, guard := _ }) (v := .slice (some ⟨gk, cm, none⟩) (mk - cm) (ck - cm)) rfl (by kernel_rfl) (by kernel_rfl) (by kernel_rfl) (fun _ _ _ h => h) (Or.inl ⟨by kernel_rfl, fun wy hy => by (go_simp; first | done | decide | omega | exact uint_small (by omega) | (rw [if_pos (by omega), if_neg (by omega)]) | exact IntWalk.i64_in _ ⟨by omega, by omega⟩)⟩) (by assumption) ?_
     try simp only [Act.put, List.setIfInBounds_toArray, List.set_cons_zero, List.set_cons_succ]
     refine wpAnyH_take (i := 12) (oi := { dst := some 76, op := _, type := _, pos := _, after := _, guard := _ }) (v := .slice (some ⟨b, off, none⟩) N cap) rfl (by kernel_rfl) (by kernel_rfl) (by kernel_rfl) (fun _ _ _ h => h) (Or.inl ⟨by kernel_rfl, fun wy hy => by (go_simp; first | done | decide | omega | exact uint_small (by omega) | (rw [if_pos (by omega), if_neg (by omega)]) | exact IntWalk.i64_in _ ⟨by omega, by omega⟩)⟩) (by assumption) ?_
     try simp only [Act.put, List.setIfInBounds_toArray, List.set_cons_zero, List.set_cons_succ]
     refine wpAnyH_take (i := 13) (oi := { dst := some 77, op := _, type := _, pos := _, after := _, guard := _ }) (v := .int .i64 (k : Int)) rfl (by kernel_rfl) (by kernel_rfl) (by kernel_rfl) (fun _ _ _ h => h) (Or.inl ⟨by kernel_rfl, fun wy hy => by (go_simp; first | done | decide | omega | exact uint_small (by omega) | (rw [if_pos (by omega), if_neg (by omega)]) | exact IntWalk.i64_in _ ⟨by omega, by omega⟩)⟩) (by assumption) ?_
     try simp only [Act.put, List.setIfInBounds_toArray, List.set_cons_zero, List.set_cons_succ]
     refine wpAnyH_take (i := 14) (oi := { dst := some 78, op := _, type := _, pos := _, after := _, guard := _ }) (v := .pointer (some ⟨b, off + k * 7, none⟩)) rfl (by kernel_rfl) (by kernel_rfl) (by kernel_rfl) (fun _ _ _ h => h) (Or.inl ⟨by kernel_rfl, fun wy hy => by (go_simp; first | done | decide | omega | exact uint_small (by omega) | (rw [if_pos (by omega), if_neg (by omega)]) | exact IntWalk.i64_in _ ⟨by omega, by omega⟩)⟩) (by assumption) ?_
     try simp only [Act.put, List.setIfInBounds_toArray, List.set_cons_zero, List.set_cons_succ]
     refine wpAnyH_take (i := 15) (oi := { dst := some 79, op := _, type := _, pos := _, after := _, guard := _ }) (v := .pointer (some ⟨b, off + k * 7 + 6, none⟩)) rfl (by kernel_rfl) (by kernel_rfl) (by kernel_rfl) (fun _ _ _ h => h) (Or.inl ⟨by kernel_rfl, fun wy hy => by (go_simp; first | done | decide | omega | exact uint_small (by omega) | (rw [if_pos (by omega), if_neg (by omega)]) | exact IntWalk.i64_in _ ⟨by omega, by omega⟩)⟩) (by assumption) ?_
     try simp only [Act.put, List.setIfInBounds_toArray, List.set_cons_zero, List.set_cons_succ]
     refine wpAnyH_take (i := 16) (oi := { dst := some 80, op := _, type := _, pos := _, after := _, guard := _ }) (v := .slice p3 z3 q3) rfl (by kernel_rfl) (by kernel_rfl) (by kernel_rfl) (fun _ _ _ h => h) (Or.inl ⟨by kernel_rfl, fun wy hy => by (have f6 := (HVa.out _ (HB4.out.trans (hy.mono HB4.out.size))).1; go_simp; done)⟩) (by assumption) ?_
     try simp only [Act.put, List.setIfInBounds_toArray, List.set_cons_zero, List.set_cons_succ]
     have hU0 : ∀ wx, Below X4.heap.size X4 wx → Calls Tryz.prog 59 #[.int .u64 (cm : Int)] wx fun e w' => ∃ a m c, e = .returned (.slice a m c) ∧ Own w' wx.heap.size (.slice a m c) m (uintL cm) ∧ Below wx.heap.size wx w' := fun wx _ => by
      have := refUint_any cm (by have := HKp.out; omega) wx
      simpa using this
     refine wpAnyH_ready (rs := [3]) (by kernel_rfl) (by simp) ?_
     refine AllReadyH.cons (o := { dst := some 67, op := _, type := _, pos := _, after := _, guard := _ }) rfl (fun KK hK => ?_) AllReadyH.nil
     go_simp
     go_at_call 59
     refine (hU0 _ BD).mono ?_
     rintro e9 Y1 ⟨au, mu, cu, rfl, ownu, hbu⟩
     have bY1 : Below X4.heap.size X4 Y1 := BD.trans (hbu.mono BD.size)
     have hmu : Hid (mu = (uintL cm).length) := ownu.1
     have hmu10 : mu ≤ 10 := by rw [hmu.out]; exact (uintL_len _).2
     clear hbu ownu hU0 BD
     go_wp2_with fail
     refine hK.out _ _ bY1 (fun hHeld => ?_)
     clear hK
     try simp only [Act.put, List.setIfInBounds_toArray, List.set_cons_zero, List.set_cons_succ]
     refine wpAnyH_take (i := 4) (oi := { dst := some 68, op := _, type := _, pos := _, after := _, guard := _ }) (v := .int .i64 (mu : Int)) rfl (by kernel_rfl) (by kernel_rfl) (by kernel_rfl) (fun _ _ _ h => h) (Or.inl ⟨by kernel_rfl, fun wy hy => by (go_simp; first | done | decide | omega | exact uint_small (by omega) | (rw [if_pos (by omega), if_neg (by omega)]) | exact IntWalk.i64_in _ ⟨by omega, by omega⟩)⟩) (by assumption) ?_
     try simp only [Act.put, List.setIfInBounds_toArray, List.set_cons_zero, List.set_cons_succ]
     refine wpAnyH_take (i := 5) (oi := { dst := some 69, op := _, type := _, pos := _, after := _, guard := _ }) (v := .int .i64 ((sz + mu : Nat) : Int)) rfl (by kernel_rfl) (by kernel_rfl) (by kernel_rfl) (fun _ _ _ h => h) (Or.inl ⟨by kernel_rfl, fun wy hy => by (go_simp; first | done | decide | omega | exact uint_small (by omega) | (rw [if_pos (by omega), if_neg (by omega)]) | exact IntWalk.i64_in _ ⟨by omega, by omega⟩)⟩) (by assumption) ?_
     try simp only [Act.put, List.setIfInBounds_toArray, List.set_cons_zero, List.set_cons_succ]
     have rdKs : ∀ wx, Below X4.heap.size X4 wx → Rd wx (.slice (some ⟨gk, cm, none⟩) (mk - cm) (ck - cm)) (K.drop cm) := fun wx hx => by
      have h := (HRk.out.later hx).past cm (by omega) (off' := 0 + cm) (n' := mk - cm) (cap' := ck - cm) rfl rfl rfl
      simpa using h
     refine wpAnyH_ready (rs := [9]) (by kernel_rfl) (by simp) ?_
     refine AllReadyH.cons (o := { dst := some 73, op := _, type := _, pos := _, after := _, guard := _ }) rfl (fun KK hK => ?_) AllReadyH.nil
     go_simp
     go_at_call 60
     refine (refBytes_any (rdKs _ bY1) (by rw [List.length_drop]; omega)).mono ?_
     rintro e9 Y2 ⟨aw, mw, cw, rfl, ownw, hbw⟩
     have bY2 : Below X4.heap.size X4 Y2 := bY1.trans (hbw.mono bY1.size)
     have hmw : Hid (mw = (bytesL (K.drop cm)).length) := ownw.1
     have hmw3 : mw ≤ 3000 := by
      have h1 := bytesL_len (K.drop cm)
      rw [← hmw.out, List.length_drop] at h1
      omega
     clear hbw ownw rdKs bY1
     go_wp2_with fail
     refine hK.out _ _ bY2 (fun hHeld => ?_)
     clear hK
     try simp only [Act.put, List.setIfInBounds_toArray, List.set_cons_zero, List.set_cons_succ]
     refine wpAnyH_take (i := 10) (oi := { dst := some 74, op := _, type := _, pos := _, after := _, guard := _ }) (v := .int .i64 (mw : Int)) rfl (by kernel_rfl) (by kernel_rfl) (by kernel_rfl) (fun _ _ _ h => h) (Or.inl ⟨by kernel_rfl, fun wy hy => by (go_simp; first | done | decide | omega | exact uint_small (by omega) | (rw [if_pos (by omega), if_neg (by omega)]) | exact IntWalk.i64_in _ ⟨by omega, by omega⟩)⟩) (by assumption) ?_
     try simp only [Act.put, List.setIfInBounds_toArray, List.set_cons_zero, List.set_cons_succ]
     refine wpAnyH_take (i := 11) (oi := { dst := some 75, op := _, type := _, pos := _, after := _, guard := _ }) (v := .int .i64 ((sz + mu + mw : Nat) : Int)) rfl (by kernel_rfl) (by kernel_rfl) (by kernel_rfl) (fun _ _ _ h => h) (Or.inl ⟨by kernel_rfl, fun wy hy => by (go_simp; first | done | decide | omega | exact uint_small (by omega) | (rw [if_pos (by omega), if_neg (by omega)]) | exact IntWalk.i64_in _ ⟨by omega, by omega⟩)⟩) (by assumption) ?_
     try simp only [Act.put, List.setIfInBounds_toArray, List.set_cons_zero, List.set_cons_succ]
     have rdV := (HVa.out _ (HB4.out.trans (bY2.mono HB4.out.size))).2
     refine wpAnyH_ready (rs := [17]) (by kernel_rfl) (by simp) ?_
     refine AllReadyH.cons (o := { dst := some 81, op := _, type := _, pos := _, after := _, guard := _ }) rfl (fun KK hK => ?_) AllReadyH.nil
     go_simp
     go_at_call 60
     refine (refBytes_any rdV (by have := (rd_lens rdV).1; omega)).mono ?_
     rintro e9 Y3 ⟨ax, mx, cx, rfl, ownx, hbx⟩
     have bY3 : Below X4.heap.size X4 Y3 := bY2.trans (hbx.mono bY2.size)
     have hmx : Hid (mx = (bytesL V).length) := ownx.1
     have hmx5 : mx ≤ 5000 := by
      have h1 := bytesL_len V
      rw [← hmx.out] at h1
      omega
     clear hbx ownx rdV bY2
     go_wp2_with fail
     refine hK.out _ _ bY3 (fun hHeld => ?_)
     clear hK
     try simp only [Act.put, List.setIfInBounds_toArray, List.set_cons_zero, List.set_cons_succ]
     refine wpAnyH_take (i := 18) (oi := { dst := some 82, op := _, type := _, pos := _, after := _, guard := _ }) (v := .int .i64 (mx : Int)) rfl (by kernel_rfl) (by kernel_rfl) (by kernel_rfl) (fun _ _ _ h => h) (Or.inl ⟨by kernel_rfl, fun wy hy => by (go_simp; first | done | decide | omega | exact uint_small (by omega) | (rw [if_pos (by omega), if_neg (by omega)]) | exact IntWalk.i64_in _ ⟨by omega, by omega⟩)⟩) (by assumption) ?_
     try simp only [Act.put, List.setIfInBounds_toArray, List.set_cons_zero, List.set_cons_succ]
     refine wpAnyH_take (i := 19) (oi := { dst := some 83, op := _, type := _, pos := _, after := _, guard := _ }) (v := .int .i64 ((sz + mu + mw + mx : Nat) : Int)) rfl (by kernel_rfl) (by kernel_rfl) (by kernel_rfl) (fun _ _ _ h => h) (Or.inl ⟨by kernel_rfl, fun wy hy => by (go_simp; first | done | decide | omega | exact uint_small (by omega) | (rw [if_pos (by omega), if_neg (by omega)]) | exact IntWalk.i64_in _ ⟨by omega, by omega⟩)⟩) (by assumption) ?_
     try simp only [Act.put, List.setIfInBounds_toArray, List.set_cons_zero, List.set_cons_succ]
     refine wpAnyH_take (i := 20) (oi := { dst := some 7, op := _, type := _, pos := _, after := _, guard := _ }) (v := .int .i64 ((sz + mu + mw + mx : Nat) : Int)) rfl (by kernel_rfl) (by kernel_rfl) (by kernel_rfl) (fun _ _ _ h => h) (Or.inl ⟨by kernel_rfl, fun wy hy => by (go_simp; first | done | decide | omega | exact uint_small (by omega) | (rw [if_pos (by omega), if_neg (by omega)]) | exact IntWalk.i64_in _ ⟨by omega, by omega⟩)⟩) (by assumption) ?_
     try simp only [Act.put, List.setIfInBounds_toArray, List.set_cons_zero, List.set_cons_succ]
     refine wpAnyH_done (by kernel_rfl) (NoPanic.normal ?_) _
     clear hHeld
     obtain ⟨sz2, hsz2⟩ : ∃ sz2, sz + mu + mw + mx = sz2 := ⟨_, rfl⟩
     have hz2 : Hid (sz2 = (addB r s K V).es.length + (addB r s K V).ps.length + 9) := by
      obtain ⟨e1, e2, e3, e4, e5, e6, e7⟩ := HE.out
      unfold Hid
      simp only [addB, esOf, recL]
      rw [HShv.out, HPs.out]
      have q1 := hmu.out
      have q2 := hmw.out
      have q3 := hmx.out
      unfold bytesL at q2 q3
      simp only [List.length_append] at q2 q3 ⊢
      omega
     have hsr : (psOf r s).length = (addB r s K V).ps.length := rfl
     have hse : (esOf r s K V).length = (addB r s K V).es.length := rfl
     have HBY := Lib.hid (HB4.out.trans (bY3.mono HB4.out.size))
     have HFl : Hid (fullB r s K V = decide (131072 < sz2)) := by
      unfold Hid fullB
      rw [hz2.out, hsr, hse]
     clear hsr hse
     by_cases hz17 : sz2 ≤ 131072
     ·have hz17i : ¬ (131072 : Int) < (sz2 : Int) := by omega
      have HZ : Hid (Bz2 W0 r l Y3 (k + 1) (.slice (some ⟨gk, 0, none⟩) mk ck) sz2 mk) := by
       obtain ⟨e1, e2, e3, e4, e5, e6, e7⟩ := HE.out
       refine ⟨addB r s K V, ?_, hz2.out, hmk.out, ?_, e6, HBY.out⟩
       ·rw [List.take_add_one, e1]
        refine bldS_snoc r _ _ e4 ?_
        rw [← e2, ← e3]
        refine addE_good HCe.out.2 (by rw [e2, ordC_swap s.la K]; have := HLt.out; omega) ?_
        rw [e2, e3, HFl.out, decide_eq_false_iff_not]; omega
       ·have h := HOk.out.later bY3
        rw [hmk.out] at h ⊢
        exact h
      clear bY3
      go_simp
      go_step
      clear hsz2
      go_wp2
      go_roundw
      case rel => exact ⟨k + 1, sz2, mk, _, _, by omega, by go_num, rfl, rfl, HZ⟩
      case measure => simp only [intOf]; omega
     ·have hz17i : (131072 : Int) < (sz2 : Int) := by omega
      have HEnd : Hid (RbA W0 r l (.returned (.tuple #[.slice none 0 0, .int .i64 53])) Y3) := by
       obtain ⟨e1, e2, e3, e4, e5, e6, e7⟩ := HE.out
       refine RbA.err (e := 53) HBY.out ?_ (by decide)
       refine bldS_fail r l k e1 e4 (by decide) ?_
       refine addE_full HCe.out.2 (by rw [e2, ordC_swap s.la K]; have := HLt.out; omega) ?_
       rw [e2, e3, HFl.out, decide_eq_true_iff]; omega
      clear bY3
      go_simp
      go_step
      clear hsz2
      go_wp2
      go_ret2
      exact HEnd.out
   ·have hk0i : (0 : Int) < (k : Int) := by omega
    obtain ⟨j, hj⟩ : ∃ j, j + 1 = k := ⟨k - 1, by omega⟩
    have hji : (k : Int) - 1 = (j : Int) := by omega
    have hjN : j < N := by omega
    obtain ⟨pe, hpe⟩ : ∃ pe, l[j]? = some pe := ⟨_, List.getElem?_eq_getElem (by rw [← HN.out]; exact hjN)⟩
    have hrd1 := HR.out.later HB1.out
    have hpok := hrd1.ok pe (List.mem_of_getElem? hpe)
    obtain ⟨b', off', heq, t0, t1, t2, t3, t4, t5, t6⟩ := hrd1.cel hpe
    cases heq
    obtain ⟨b', off', heq, x0, x1, x2, x3, x4, x5, x6⟩ := hrd1.cel HE.out.1
    cases heq
    have HLa : Hid (ordC s.la K = compareS pe e) := by
     have hpk : pe ∈ l.take k := List.mem_of_getElem? (i := j) (by rw [List.getElem?_take_of_lt (by omega)]; exact hpe)
     have e2 : s.la = keyL pe := by
      have e3 : l.take k = l.take j ++ [pe] := by rw [← hj, List.take_add_one, hpe]; rfl
      rw [HFo.out.1, fold_last, e3]
      simp [kvL, lastK_snoc]
     unfold Hid
     rw [e2, ← HE.out.2.1]
     exact key_ord (HFo.out.2 pe hpk) HCe.out.2
    obtain ⟨_, pp1, qq1, u1, -⟩ := hpok.1
    obtain ⟨_, pp2, qq2, u2, -⟩ := hpok.2.1
    obtain ⟨_, pp3, qq3, u3, -⟩ := hpok.2.2
    have hpc : pe.cells = #[.slice pp1 pe.row.length qq1, .int .i64 pe.fam, .slice pp2 pe.qual.length qq2, .int .i64 pe.ts, .int .i64 pe.seq, .int .i64 pe.kind, .slice pp3 pe.val.length qq3] := by unfold EntD.cells; rw [u1, u2, u3]
    obtain ⟨y1, hy1⟩ : ∃ z, z = pe.row.length := ⟨_, rfl⟩
    obtain ⟨y2, hy2⟩ : ∃ z, z = pe.qual.length := ⟨_, rfl⟩
    obtain ⟨y3, hy3⟩ : ∃ z, z = pe.val.length := ⟨_, rfl⟩
    rw [u1, ← hy1] at t0
    rw [u2, ← hy2] at t2
    rw [u3, ← hy3] at t6
    rw [← hy1, ← hy2, ← hy3] at hpc
    rw [HVr.out.1] at x0
    rw [HVr.out.2.1] at x2
    rw [HVr.out.2.2] at x6
    have HDp : Hid (_ ∧ _ ∧ _ ∧ _ ∧ _ ∧ _ ∧ _) := ⟨t0, t1, t2, t3, t4, t5, t6⟩
    have HD1 : Hid (_ ∧ _ ∧ _ ∧ _ ∧ _ ∧ _ ∧ _) := ⟨x0, x1, x2, x3, x4, x5, x6⟩
    have HCp : Hid (∀ wx, Below X1.heap.size X1 wx → Calls Tryz.prog 48 #[.agg #[.slice pp1 y1 qq1, .int .i64 pe.fam, .slice pp2 y2 qq2, .int .i64 pe.ts, .int .i64 pe.seq, .int .i64 pe.kind, .slice pp3 y3 qq3], .agg #[.slice p1 z1 q1, .int .i64 e.fam, .slice p2 z2 q2, .int .i64 e.ts, .int .i64 e.seq, .int .i64 e.kind, .slice p3 z3 q3]] wx fun r w' => r = .returned (.int .i64 (compareS pe e)) ∧ Below wx.heap.size wx w') := fun wx hx => by
     have h := refCompare_any (hpok.later hx) ((hrd1.ok e (List.mem_of_getElem? HE.out.1)).later hx)
     rw [hpc, HCe.out.1] at h
     exact h
    obtain ⟨cv, hcv⟩ : ∃ cv, compareS pe e = cv := ⟨_, rfl⟩
    rw [hcv] at HCp HLa
    clear hpe hrd1 hpok t0 t1 t2 t3 t4 t5 t6 x0 x1 x2 x3 x4 x5 x6 u1 u2 u3 hpc hy1 hy2 hy3 hcv
    rcases Decidable.em (0 ≤ cv) with hcv2 | hcv2
    ·have HEnd : Hid (∀ X2, Below X1.heap.size X1 X2 → RbA W0 r l (.returned (.tuple #[.slice none 0 0, .int .i64 30])) X2) := fun X2 b => by
      obtain ⟨e1, e2, e3, e4, e5, e6, e7⟩ := HE.out
      refine RbA.err (e := 30) (HB1.out.trans (b.mono HB1.out.size)) (bldS_fail r l k e1 e4 (by decide) (addE_ord HCe.out.2 ?_)) (by decide)
      rw [e2, ordC_swap s.la K, HLa.out]
      omega
     have BD : Below X1.heap.size X1 X1.drew := (Below.refl _ _).drew
     refine wp_region_noPanic ?_
     refine wp_region_held_drew (S := fun wx => Below X1.heap.size X1 wx) (by kernel_rfl) BD (fun hHeld => ?_)
     refine wpAnyH_take (i := 0) (oi := { dst := some 32, op := _, type := _, pos := _, after := _, guard := _ }) (v := .int .i64 (k : Int)) rfl (by kernel_rfl) (by kernel_rfl) (by kernel_rfl) (fun _ _ _ h => h) (Or.inl ⟨by kernel_rfl, fun wy hy => by (go_simp; first | done | omega)⟩) (by assumption) ?_
     try simp only [Act.put, List.setIfInBounds_toArray, List.set_cons_zero, List.set_cons_succ]
     refine wpAnyH_take (i := 1) (oi := { dst := some 33, op := _, type := _, pos := _, after := _, guard := _ }) (v := .bool true) rfl (by kernel_rfl) (by kernel_rfl) (by kernel_rfl) (fun _ _ _ h => h) (Or.inl ⟨by kernel_rfl, fun wy hy => by (go_simp; first | done | omega)⟩) (by assumption) ?_
     try simp only [Act.put, List.setIfInBounds_toArray, List.set_cons_zero, List.set_cons_succ]
     refine wpAnyH_take (i := 2) (oi := { dst := some 34, op := _, type := _, pos := _, after := _, guard := _ }) (v := .bool true) rfl (by kernel_rfl) (by kernel_rfl) (by kernel_rfl) (fun _ _ _ h => h) (Or.inl ⟨by kernel_rfl, fun wy hy => by (go_simp; first | done | omega)⟩) (by assumption) ?_
     try simp only [Act.put, List.setIfInBounds_toArray, List.set_cons_zero, List.set_cons_succ]
     refine wpAnyH_take (i := 3) (oi := { dst := some 35, op := _, type := _, pos := _, after := _, guard := _ }) (v := .slice (some ⟨b, off, none⟩) N cap) rfl (by kernel_rfl) (by kernel_rfl) (by kernel_rfl) (fun _ _ _ h => h) (Or.inl ⟨by kernel_rfl, fun wy hy => by (go_simp; first | done | omega)⟩) (by assumption) ?_
     try simp only [Act.put, List.setIfInBounds_toArray, List.set_cons_zero, List.set_cons_succ]
     refine wpAnyH_take (i := 4) (oi := { dst := some 36, op := _, type := _, pos := _, after := _, guard := _ }) (v := .int .i64 (k : Int)) rfl (by kernel_rfl) (by kernel_rfl) (by kernel_rfl) (fun _ _ _ h => h) (Or.inl ⟨by kernel_rfl, fun wy hy => by (go_simp; first | done | omega)⟩) (by assumption) ?_
     try simp only [Act.put, List.setIfInBounds_toArray, List.set_cons_zero, List.set_cons_succ]
     refine wpAnyH_take (i := 5) (oi := { dst := some 37, op := _, type := _, pos := _, after := _, guard := _ }) (v := .int .i64 (j : Int)) rfl (by kernel_rfl) (by kernel_rfl) (by kernel_rfl) (fun _ _ _ h => h) (Or.inl ⟨by kernel_rfl, fun wy hy => by (go_simp; first | done | omega | exact IntWalk.i64_in _ ⟨by omega, by omega⟩)⟩) (by assumption) ?_
     try simp only [Act.put, List.setIfInBounds_toArray, List.set_cons_zero, List.set_cons_succ]
     refine wpAnyH_take (i := 6) (oi := { dst := some 38, op := _, type := _, pos := _, after := _, guard := _ }) (v := .pointer (some ⟨b, off + j * 7, none⟩)) rfl (by kernel_rfl) (by kernel_rfl) (by kernel_rfl) (fun _ _ _ h => h) (Or.inl ⟨by kernel_rfl, fun wy hy => by (go_simp; first | done | omega)⟩) (by assumption) ?_
     try simp only [Act.put, List.setIfInBounds_toArray, List.set_cons_zero, List.set_cons_succ]
     refine wpAnyH_take (i := 7) (oi := { dst := some 39, op := _, type := _, pos := _, after := _, guard := _ }) (v := .agg #[.slice pp1 y1 qq1, .int .i64 pe.fam, .slice pp2 y2 qq2, .int .i64 pe.ts, .int .i64 pe.seq, .int .i64 pe.kind, .slice pp3 y3 qq3]) rfl (by kernel_rfl) (by kernel_rfl) (by kernel_rfl) (fun _ _ _ h => h) (Or.inl ⟨by kernel_rfl, fun wy hy => by (have f0 := (hy.cell (p := ⟨b, off + j * 7, none⟩) (World.block_lt_of_cell? _ _ HDp.out.1)).trans HDp.out.1; have f1 := (hy.cell (p := ⟨b, off + j * 7 + 1, none⟩) (World.block_lt_of_cell? _ _ HDp.out.2.1)).trans HDp.out.2.1; have f2 := (hy.cell (p := ⟨b, off + j * 7 + 2, none⟩) (World.block_lt_of_cell? _ _ HDp.out.2.2.1)).trans HDp.out.2.2.1; have f3 := (hy.cell (p := ⟨b, off + j * 7 + 3, none⟩) (World.block_lt_of_cell? _ _ HDp.out.2.2.2.1)).trans HDp.out.2.2.2.1; have f4 := (hy.cell (p := ⟨b, off + j * 7 + 4, none⟩) (World.block_lt_of_cell? _ _ HDp.out.2.2.2.2.1)).trans HDp.out.2.2.2.2.1; have f5 := (hy.cell (p := ⟨b, off + j * 7 + 5, none⟩) (World.block_lt_of_cell? _ _ HDp.out.2.2.2.2.2.1)).trans HDp.out.2.2.2.2.2.1; have f6 := (hy.cell (p := ⟨b, off + j * 7 + 6, none⟩) (World.block_lt_of_cell? _ _ HDp.out.2.2.2.2.2.2)).trans HDp.out.2.2.2.2.2.2; go_simp; done)⟩) (by assumption) ?_
     try simp only [Act.put, List.setIfInBounds_toArray, List.set_cons_zero, List.set_cons_succ]
     refine wpAnyH_take (i := 8) (oi := { dst := some 40, op := _, type := _, pos := _, after := _, guard := _ }) (v := .slice (some ⟨b, off, none⟩) N cap) rfl (by kernel_rfl) (by kernel_rfl) (by kernel_rfl) (fun _ _ _ h => h) (Or.inl ⟨by kernel_rfl, fun wy hy => by (go_simp; first | done | omega)⟩) (by assumption) ?_
     try simp only [Act.put, List.setIfInBounds_toArray, List.set_cons_zero, List.set_cons_succ]
     refine wpAnyH_take (i := 9) (oi := { dst := some 41, op := _, type := _, pos := _, after := _, guard := _ }) (v := .int .i64 (k : Int)) rfl (by kernel_rfl) (by kernel_rfl) (by kernel_rfl) (fun _ _ _ h => h) (Or.inl ⟨by kernel_rfl, fun wy hy => by (go_simp; first | done | omega)⟩) (by assumption) ?_
     try simp only [Act.put, List.setIfInBounds_toArray, List.set_cons_zero, List.set_cons_succ]
     refine wpAnyH_take (i := 10) (oi := { dst := some 42, op := _, type := _, pos := _, after := _, guard := _ }) (v := .pointer (some ⟨b, off + k * 7, none⟩)) rfl (by kernel_rfl) (by kernel_rfl) (by kernel_rfl) (fun _ _ _ h => h) (Or.inl ⟨by kernel_rfl, fun wy hy => by (go_simp; first | done | omega)⟩) (by assumption) ?_
     try simp only [Act.put, List.setIfInBounds_toArray, List.set_cons_zero, List.set_cons_succ]
     refine wpAnyH_take (i := 11) (oi := { dst := some 43, op := _, type := _, pos := _, after := _, guard := _ }) (v := .agg #[.slice p1 z1 q1, .int .i64 e.fam, .slice p2 z2 q2, .int .i64 e.ts, .int .i64 e.seq, .int .i64 e.kind, .slice p3 z3 q3]) rfl (by kernel_rfl) (by kernel_rfl) (by kernel_rfl) (fun _ _ _ h => h) (Or.inl ⟨by kernel_rfl, fun wy hy => by (have f0 := (hy.cell (p := ⟨b, off + k * 7, none⟩) (World.block_lt_of_cell? _ _ HD1.out.1)).trans HD1.out.1; have f1 := (hy.cell (p := ⟨b, off + k * 7 + 1, none⟩) (World.block_lt_of_cell? _ _ HD1.out.2.1)).trans HD1.out.2.1; have f2 := (hy.cell (p := ⟨b, off + k * 7 + 2, none⟩) (World.block_lt_of_cell? _ _ HD1.out.2.2.1)).trans HD1.out.2.2.1; have f3 := (hy.cell (p := ⟨b, off + k * 7 + 3, none⟩) (World.block_lt_of_cell? _ _ HD1.out.2.2.2.1)).trans HD1.out.2.2.2.1; have f4 := (hy.cell (p := ⟨b, off + k * 7 + 4, none⟩) (World.block_lt_of_cell? _ _ HD1.out.2.2.2.2.1)).trans HD1.out.2.2.2.2.1; have f5 := (hy.cell (p := ⟨b, off + k * 7 + 5, none⟩) (World.block_lt_of_cell? _ _ HD1.out.2.2.2.2.2.1)).trans HD1.out.2.2.2.2.2.1; have f6 := (hy.cell (p := ⟨b, off + k * 7 + 6, none⟩) (World.block_lt_of_cell? _ _ HD1.out.2.2.2.2.2.2)).trans HD1.out.2.2.2.2.2.2; go_simp; done)⟩) (by assumption) ?_
     try simp only [Act.put, List.setIfInBounds_toArray, List.set_cons_zero, List.set_cons_succ]
     refine wpAnyH_ready (rs := [12]) (by kernel_rfl) (by simp) ?_
     refine AllReadyH.cons (o := { dst := some 44, op := _, type := _, pos := _, after := _, guard := _ }) rfl (fun KK hK => ?_) AllReadyH.nil
     go_simp
     go_at_call 48
     refine (HCp.out _ BD).mono ?_
     rintro e9 X2 ⟨rfl, hb2⟩
     have bX2 : Below X1.heap.size X1 X2 := BD.trans (hb2.mono BD.size)
     clear hb2 BD HCp
     go_wp2_with fail
     refine hK.out _ _ bX2 (fun hHeld => ?_)
     clear hK
     try simp only [Act.put, List.setIfInBounds_toArray, List.set_cons_zero, List.set_cons_succ]
     refine wpAnyH_take (i := 13) (oi := { dst := some 45, op := _, type := _, pos := _, after := _, guard := _ }) (v := .bool true) rfl (by kernel_rfl) (by kernel_rfl) (by kernel_rfl) (fun _ _ _ h => h) (Or.inl ⟨by kernel_rfl, fun wy hy => by (go_simp; first | done | omega)⟩) (by assumption) ?_
     try simp only [Act.put, List.setIfInBounds_toArray, List.set_cons_zero, List.set_cons_succ]
     refine wpAnyH_take (i := 14) (oi := { dst := some 46, op := _, type := _, pos := _, after := _, guard := _ }) (v := .bool true) rfl (by kernel_rfl) (by kernel_rfl) (by kernel_rfl) (fun _ _ _ h => h) (Or.inl ⟨by kernel_rfl, fun wy hy => by (go_simp; first | done | omega)⟩) (by assumption) ?_
     try simp only [Act.put, List.setIfInBounds_toArray, List.set_cons_zero, List.set_cons_succ]
     refine wpAnyH_done (by kernel_rfl) (NoPanic.normal ?_) _
     clear hHeld
     have HEnd := Lib.hid (HEnd.out X2 bX2)
     go_simp
     go_step
     go_wp2
     go_ret2
     exact HEnd.out
    have HLt : Hid (ordC s.la K < 0) := by unfold Hid; rw [HLa.out]; omega
    have BD : Below X1.heap.size X1 X1.drew := (Below.refl _ _).drew
    refine wp_region_noPanic ?_
    refine wp_region_held_drew (S := fun wx => Below X1.heap.size X1 wx) (by kernel_rfl) BD (fun hHeld => ?_)
    refine wpAnyH_take (i := 0) (oi := { dst := some 32, op := _, type := _, pos := _, after := _, guard := _ }) (v := .int .i64 (k : Int)) rfl (by kernel_rfl) (by kernel_rfl) (by kernel_rfl) (fun _ _ _ h => h) (Or.inl ⟨by kernel_rfl, fun wy hy => by (go_simp; first | done | omega)⟩) (by assumption) ?_
    try simp only [Act.put, List.setIfInBounds_toArray, List.set_cons_zero, List.set_cons_succ]
    refine wpAnyH_take (i := 1) (oi := { dst := some 33, op := _, type := _, pos := _, after := _, guard := _ }) (v := .bool true) rfl (by kernel_rfl) (by kernel_rfl) (by kernel_rfl) (fun _ _ _ h => h) (Or.inl ⟨by kernel_rfl, fun wy hy => by (go_simp; first | done | omega)⟩) (by assumption) ?_
    try simp only [Act.put, List.setIfInBounds_toArray, List.set_cons_zero, List.set_cons_succ]
    refine wpAnyH_take (i := 2) (oi := { dst := some 34, op := _, type := _, pos := _, after := _, guard := _ }) (v := .bool true) rfl (by kernel_rfl) (by kernel_rfl) (by kernel_rfl) (fun _ _ _ h => h) (Or.inl ⟨by kernel_rfl, fun wy hy => by (go_simp; first | done | omega)⟩) (by assumption) ?_
    try simp only [Act.put, List.setIfInBounds_toArray, List.set_cons_zero, List.set_cons_succ]
    refine wpAnyH_take (i := 3) (oi := { dst := some 35, op := _, type := _, pos := _, after := _, guard := _ }) (v := .slice (some ⟨b, off, none⟩) N cap) rfl (by kernel_rfl) (by kernel_rfl) (by kernel_rfl) (fun _ _ _ h => h) (Or.inl ⟨by kernel_rfl, fun wy hy => by (go_simp; first | done | omega)⟩) (by assumption) ?_
    try simp only [Act.put, List.setIfInBounds_toArray, List.set_cons_zero, List.set_cons_succ]
    refine wpAnyH_take (i := 4) (oi := { dst := some 36, op := _, type := _, pos := _, after := _, guard := _ }) (v := .int .i64 (k : Int)) rfl (by kernel_rfl) (by kernel_rfl) (by kernel_rfl) (fun _ _ _ h => h) (Or.inl ⟨by kernel_rfl, fun wy hy => by (go_simp; first | done | omega)⟩) (by assumption) ?_
    try simp only [Act.put, List.setIfInBounds_toArray, List.set_cons_zero, List.set_cons_succ]
    refine wpAnyH_take (i := 5) (oi := { dst := some 37, op := _, type := _, pos := _, after := _, guard := _ }) (v := .int .i64 (j : Int)) rfl (by kernel_rfl) (by kernel_rfl) (by kernel_rfl) (fun _ _ _ h => h) (Or.inl ⟨by kernel_rfl, fun wy hy => by (go_simp; first | done | omega | exact IntWalk.i64_in _ ⟨by omega, by omega⟩)⟩) (by assumption) ?_
    try simp only [Act.put, List.setIfInBounds_toArray, List.set_cons_zero, List.set_cons_succ]
    refine wpAnyH_take (i := 6) (oi := { dst := some 38, op := _, type := _, pos := _, after := _, guard := _ }) (v := .pointer (some ⟨b, off + j * 7, none⟩)) rfl (by kernel_rfl) (by kernel_rfl) (by kernel_rfl) (fun _ _ _ h => h) (Or.inl ⟨by kernel_rfl, fun wy hy => by (go_simp; first | done | omega)⟩) (by assumption) ?_
    try simp only [Act.put, List.setIfInBounds_toArray, List.set_cons_zero, List.set_cons_succ]
    refine wpAnyH_take (i := 7) (oi := { dst := some 39, op := _, type := _, pos := _, after := _, guard := _ }) (v := .agg #[.slice pp1 y1 qq1, .int .i64 pe.fam, .slice pp2 y2 qq2, .int .i64 pe.ts, .int .i64 pe.seq, .int .i64 pe.kind, .slice pp3 y3 qq3]) rfl (by kernel_rfl) (by kernel_rfl) (by kernel_rfl) (fun _ _ _ h => h) (Or.inl ⟨by kernel_rfl, fun wy hy => by (have f0 := (hy.cell (p := ⟨b, off + j * 7, none⟩) (World.block_lt_of_cell? _ _ HDp.out.1)).trans HDp.out.1; have f1 := (hy.cell (p := ⟨b, off + j * 7 + 1, none⟩) (World.block_lt_of_cell? _ _ HDp.out.2.1)).trans HDp.out.2.1; have f2 := (hy.cell (p := ⟨b, off + j * 7 + 2, none⟩) (World.block_lt_of_cell? _ _ HDp.out.2.2.1)).trans HDp.out.2.2.1; have f3 := (hy.cell (p := ⟨b, off + j * 7 + 3, none⟩) (World.block_lt_of_cell? _ _ HDp.out.2.2.2.1)).trans HDp.out.2.2.2.1; have f4 := (hy.cell (p := ⟨b, off + j * 7 + 4, none⟩) (World.block_lt_of_cell? _ _ HDp.out.2.2.2.2.1)).trans HDp.out.2.2.2.2.1; have f5 := (hy.cell (p := ⟨b, off + j * 7 + 5, none⟩) (World.block_lt_of_cell? _ _ HDp.out.2.2.2.2.2.1)).trans HDp.out.2.2.2.2.2.1; have f6 := (hy.cell (p := ⟨b, off + j * 7 + 6, none⟩) (World.block_lt_of_cell? _ _ HDp.out.2.2.2.2.2.2)).trans HDp.out.2.2.2.2.2.2; go_simp; done)⟩) (by assumption) ?_
    try simp only [Act.put, List.setIfInBounds_toArray, List.set_cons_zero, List.set_cons_succ]
    refine wpAnyH_take (i := 8) (oi := { dst := some 40, op := _, type := _, pos := _, after := _, guard := _ }) (v := .slice (some ⟨b, off, none⟩) N cap) rfl (by kernel_rfl) (by kernel_rfl) (by kernel_rfl) (fun _ _ _ h => h) (Or.inl ⟨by kernel_rfl, fun wy hy => by (go_simp; first | done | omega)⟩) (by assumption) ?_
    try simp only [Act.put, List.setIfInBounds_toArray, List.set_cons_zero, List.set_cons_succ]
    refine wpAnyH_take (i := 9) (oi := { dst := some 41, op := _, type := _, pos := _, after := _, guard := _ }) (v := .int .i64 (k : Int)) rfl (by kernel_rfl) (by kernel_rfl) (by kernel_rfl) (fun _ _ _ h => h) (Or.inl ⟨by kernel_rfl, fun wy hy => by (go_simp; first | done | omega)⟩) (by assumption) ?_
    try simp only [Act.put, List.setIfInBounds_toArray, List.set_cons_zero, List.set_cons_succ]
    refine wpAnyH_take (i := 10) (oi := { dst := some 42, op := _, type := _, pos := _, after := _, guard := _ }) (v := .pointer (some ⟨b, off + k * 7, none⟩)) rfl (by kernel_rfl) (by kernel_rfl) (by kernel_rfl) (fun _ _ _ h => h) (Or.inl ⟨by kernel_rfl, fun wy hy => by (go_simp; first | done | omega)⟩) (by assumption) ?_
    try simp only [Act.put, List.setIfInBounds_toArray, List.set_cons_zero, List.set_cons_succ]
    refine wpAnyH_take (i := 11) (oi := { dst := some 43, op := _, type := _, pos := _, after := _, guard := _ }) (v := .agg #[.slice p1 z1 q1, .int .i64 e.fam, .slice p2 z2 q2, .int .i64 e.ts, .int .i64 e.seq, .int .i64 e.kind, .slice p3 z3 q3]) rfl (by kernel_rfl) (by kernel_rfl) (by kernel_rfl) (fun _ _ _ h => h) (Or.inl ⟨by kernel_rfl, fun wy hy => by (have f0 := (hy.cell (p := ⟨b, off + k * 7, none⟩) (World.block_lt_of_cell? _ _ HD1.out.1)).trans HD1.out.1; have f1 := (hy.cell (p := ⟨b, off + k * 7 + 1, none⟩) (World.block_lt_of_cell? _ _ HD1.out.2.1)).trans HD1.out.2.1; have f2 := (hy.cell (p := ⟨b, off + k * 7 + 2, none⟩) (World.block_lt_of_cell? _ _ HD1.out.2.2.1)).trans HD1.out.2.2.1; have f3 := (hy.cell (p := ⟨b, off + k * 7 + 3, none⟩) (World.block_lt_of_cell? _ _ HD1.out.2.2.2.1)).trans HD1.out.2.2.2.1; have f4 := (hy.cell (p := ⟨b, off + k * 7 + 4, none⟩) (World.block_lt_of_cell? _ _ HD1.out.2.2.2.2.1)).trans HD1.out.2.2.2.2.1; have f5 := (hy.cell (p := ⟨b, off + k * 7 + 5, none⟩) (World.block_lt_of_cell? _ _ HD1.out.2.2.2.2.2.1)).trans HD1.out.2.2.2.2.2.1; have f6 := (hy.cell (p := ⟨b, off + k * 7 + 6, none⟩) (World.block_lt_of_cell? _ _ HD1.out.2.2.2.2.2.2)).trans HD1.out.2.2.2.2.2.2; go_simp; done)⟩) (by assumption) ?_
    try simp only [Act.put, List.setIfInBounds_toArray, List.set_cons_zero, List.set_cons_succ]
    refine wpAnyH_ready (rs := [12]) (by kernel_rfl) (by simp) ?_
    refine AllReadyH.cons (o := { dst := some 44, op := _, type := _, pos := _, after := _, guard := _ }) rfl (fun KK hK => ?_) AllReadyH.nil
    go_simp
    go_at_call 48
    refine (HCp.out _ BD).mono ?_
    rintro e9 X2 ⟨rfl, hb2⟩
    have bX2 : Below X1.heap.size X1 X2 := BD.trans (hb2.mono BD.size)
    clear hb2 BD HCp
    go_wp2_with fail
    refine hK.out _ _ bX2 (fun hHeld => ?_)
    clear hK
    try simp only [Act.put, List.setIfInBounds_toArray, List.set_cons_zero, List.set_cons_succ]
    refine wpAnyH_take (i := 13) (oi := { dst := some 45, op := _, type := _, pos := _, after := _, guard := _ }) (v := .bool false) rfl (by kernel_rfl) (by kernel_rfl) (by kernel_rfl) (fun _ _ _ h => h) (Or.inl ⟨by kernel_rfl, fun wy hy => by (go_simp; first | done | omega)⟩) (by assumption) ?_
    try simp only [Act.put, List.setIfInBounds_toArray, List.set_cons_zero, List.set_cons_succ]
    refine wpAnyH_take (i := 14) (oi := { dst := some 46, op := _, type := _, pos := _, after := _, guard := _ }) (v := .bool false) rfl (by kernel_rfl) (by kernel_rfl) (by kernel_rfl) (fun _ _ _ h => h) (Or.inl ⟨by kernel_rfl, fun wy hy => by (go_simp; first | done | omega)⟩) (by assumption) ?_
    try simp only [Act.put, List.setIfInBounds_toArray, List.set_cons_zero, List.set_cons_succ]
    refine wpAnyH_done (by kernel_rfl) (NoPanic.normal ?_) _
    clear hHeld
    go_simp
    go_step
    have HB2 := Lib.hid (HB1.out.trans (bX2.mono HB1.out.size))
    have HO2 := Lib.hid (HO1.out.later bX2)
    clear bX2
    obtain ⟨b', off', heq, x0, x1, x2, x3, x4, x5, x6⟩ := (HR.out.later HB2.out).cel HE.out.1
    cases heq
    rw [HVr.out.1] at x0
    rw [HVr.out.2.1] at x2
    rw [HVr.out.2.2] at x6
    go_wp2_with fail
    clear x0 x1 x2 x3 x4 x5 x6
    refine Calls.mono (HKy.out _ HB2.out) ?_
    rintro z X3 ⟨ak, mk, ck, rfl, ownK, b3⟩
    have hmk : Hid (mk = K.length) := ownK.1
    have hmk2 : mk ≤ 2000 := by rw [hmk.out]; exact hKl
    have rdK := ownK.rd HE.out.2.2.2.2.2.1 (by omega)
    have rdL := (HO2.out.later b3).rd HSt.out.2.2.1 (by
     have e1 := HFo.out.1
     have h1 : s.la.length ≤ s.es.length := by rw [e1]; exact fold_la r _ _ (Nat.le_refl _)
     have h2 := HE.out.2.2.2.2.2.2
     have h3 := HSt.out.1
     omega)
    have HSh := Lib.hid (shared5_any rdL rdK)
    obtain ⟨cm, hcm⟩ : ∃ cm, comL s.la K = cm := ⟨_, rfl⟩
    rw [hcm] at HSh
    have HCm := Lib.hid hcm
    have HKp : Hid (0 < K.length ∧ cm < K.length) := by
     have h1 : ordC s.la K < 0 := HLt.out
     have h2 := com_lt (a := s.la) (b := K) (by rw [ordC_swap s.la K]; omega)
     rw [hcm] at h2
     unfold Hid
     omega
    obtain ⟨gk, rfl⟩ : ∃ gk, ak = some ⟨gk, 0, none⟩ := by
     have h := ownK
     rcases ownNonil h with ⟨_, h0, _⟩ | h
     ·have := HKp.out; have := hmk.out; omega
     ·exact h
    have hmkc : mk ≤ ck := (rd_lens rdK).2.1
    have hcmk : cm < mk := by have := HKp.out; have := hmk.out; omega
    have HB3 := Lib.hid (HB2.out.trans (b3.mono HB2.out.size))
    have HOw3 := Lib.hid (And.intro (ownK.mono (B' := W0.heap.size) HB2.out.size) rdK)
    clear ownK b3 rdK rdL hcm HO2
    go_wp2_with fail
    refine Calls.mono HSh.out ?_
    rintro z X4 ⟨rfl, b4⟩
    have HB4 := Lib.hid (HB3.out.trans (b4.mono HB3.out.size))
    have HOk := Lib.hid (HOw3.out.1.later b4)
    have HRk := Lib.hid (HOw3.out.2.later b4)
    clear HSh HOw3 b4
    by_cases hz : k % r = 0
    ·have hzi : (((k : Int) % (r : Int)) == 0) = true := by rw [beq_iff_eq]; omega
     have HShv : Hid (shOf r s K = 0) := by unfold Hid shOf; rw [HE.out.2.2.2.2.1, if_pos hz]
     have HPs : Hid (psOf r s = s.ps ++ be4 s.es.length) := by unfold Hid psOf; rw [HE.out.2.2.2.2.1, if_pos hz]
     go_upto_region 19 with fail
     have BD : Below X4.heap.size X4 X4.drew := (Below.refl _ _).drew
     refine wp_region_noPanic ?_
     refine wp_region_held_drew (S := fun wx => Below X4.heap.size X4 wx) (by kernel_rfl) BD (fun hHeld => ?_)
     refine wpAnyH_take (i := 0) (oi := { dst := some 64, op := _, type := _, pos := _, after := _, guard := _ }) (v := .int .i64 ((sz + 4 : Nat) : Int)) rfl (by kernel_rfl) (by kernel_rfl) (by kernel_rfl) (fun _ _ _ h => h) (Or.inl ⟨by kernel_rfl, fun wy hy => by (go_simp; first | done | decide | omega | exact uint_small (by omega) | (rw [if_pos (by omega), if_neg (by omega)]) | exact IntWalk.i64_in _ ⟨by omega, by omega⟩)⟩) (by assumption) ?_
     try simp only [Act.put, List.setIfInBounds_toArray, List.set_cons_zero, List.set_cons_succ]
     refine wpAnyH_take (i := 1) (oi := { dst := some 65, op := _, type := _, pos := _, after := _, guard := _ }) (v := .int .i64 0) rfl (by kernel_rfl) (by kernel_rfl) (by kernel_rfl) (fun _ _ _ h => h) (Or.inl ⟨by kernel_rfl, fun wy hy => by (go_simp; first | done | decide | omega | exact uint_small (by omega) | (rw [if_pos (by omega), if_neg (by omega)]) | exact IntWalk.i64_in _ ⟨by omega, by omega⟩)⟩) (by assumption) ?_
     try simp only [Act.put, List.setIfInBounds_toArray, List.set_cons_zero, List.set_cons_succ]
     refine wpAnyH_take (i := 2) (oi := { dst := some 66, op := _, type := _, pos := _, after := _, guard := _ }) (v := .int .u64 0) rfl (by kernel_rfl) (by kernel_rfl) (by kernel_rfl) (fun _ _ _ h => h) (Or.inl ⟨by kernel_rfl, fun wy hy => by (go_simp; first | done | decide | omega | exact uint_small (by omega) | (rw [if_pos (by omega), if_neg (by omega)]) | exact IntWalk.i64_in _ ⟨by omega, by omega⟩)⟩) (by assumption) ?_
     try simp only [Act.put, List.setIfInBounds_toArray, List.set_cons_zero, List.set_cons_succ]
     refine wpAnyH_take (i := 6) (oi := { dst := some 70, op := _, type := _, pos := _, after := _, guard := _ }) (v := .slice (some ⟨gk, 0, none⟩) mk ck) rfl (by kernel_rfl) (by kernel_rfl) (by kernel_rfl) (fun _ _ _ h => h) (Or.inl ⟨by kernel_rfl, fun wy hy => by (go_simp; first | done | decide | omega | exact uint_small (by omega) | (rw [if_pos (by omega), if_neg (by omega)]) | exact IntWalk.i64_in _ ⟨by omega, by omega⟩)⟩) (by assumption) ?_
     try simp only [Act.put, List.setIfInBounds_toArray, List.set_cons_zero, List.set_cons_succ]
     refine wpAnyH_take (i := 7) (oi := { dst := some 71, op := _, type := _, pos := _, after := _, guard := _ }) (v := .int .i64 0) rfl (by kernel_rfl) (by kernel_rfl) (by kernel_rfl) (fun _ _ _ h => h) (Or.inl ⟨by kernel_rfl, fun wy hy => by (go_simp; first | done | decide | omega | exact uint_small (by omega) | (rw [if_pos (by omega), if_neg (by omega)]) | exact IntWalk.i64_in _ ⟨by omega, by omega⟩)⟩) (by assumption) ?_
     try simp only [Act.put, List.setIfInBounds_toArray, List.set_cons_zero, List.set_cons_succ]
     refine wpAnyH_take (i := 8) (oi := { dst := some 72, op := _, type := _, pos := _, after := _, guard := _ }) (v := .slice (some ⟨gk, 0, none⟩) mk ck) rfl (by kernel_rfl) (by kernel_rfl) (by kernel_rfl) (fun _ _ _ h => h) (Or.inl ⟨by kernel_rfl, fun wy hy => by (go_simp; first | done | decide | omega | exact uint_small (by omega) | (rw [if_pos (by omega), if_neg (by omega)]) | exact IntWalk.i64_in _ ⟨by omega, by omega⟩)⟩) (by assumption) ?_
     try simp only [Act.put, List.setIfInBounds_toArray, List.set_cons_zero, List.set_cons_succ]
     refine wpAnyH_take (i := 12) (oi := { dst := some 76, op := _, type := _, pos := _, after := _, guard := _ }) (v := .slice (some ⟨b, off, none⟩) N cap) rfl (by kernel_rfl) (by kernel_rfl) (by kernel_rfl) (fun _ _ _ h => h) (Or.inl ⟨by kernel_rfl, fun wy hy => by (go_simp; first | done | decide | omega | exact uint_small (by omega) | (rw [if_pos (by omega), if_neg (by omega)]) | exact IntWalk.i64_in _ ⟨by omega, by omega⟩)⟩) (by assumption) ?_
     try simp only [Act.put, List.setIfInBounds_toArray, List.set_cons_zero, List.set_cons_succ]
     refine wpAnyH_take (i := 13) (oi := { dst := some 77, op := _, type := _, pos := _, after := _, guard := _ }) (v := .int .i64 (k : Int)) rfl (by kernel_rfl) (by kernel_rfl) (by kernel_rfl) (fun _ _ _ h => h) (Or.inl ⟨by kernel_rfl, fun wy hy => by (go_simp; first | done | decide | omega | exact uint_small (by omega) | (rw [if_pos (by omega), if_neg (by omega)]) | exact IntWalk.i64_in _ ⟨by omega, by omega⟩)⟩) (by assumption) ?_
     try simp only [Act.put, List.setIfInBounds_toArray, List.set_cons_zero, List.set_cons_succ]
     refine wpAnyH_take (i := 14) (oi := { dst := some 78, op := _, type := _, pos := _, after := _, guard := _ }) (v := .pointer (some ⟨b, off + k * 7, none⟩)) rfl (by kernel_rfl) (by kernel_rfl) (by kernel_rfl) (fun _ _ _ h => h) (Or.inl ⟨by kernel_rfl, fun wy hy => by (go_simp; first | done | decide | omega | exact uint_small (by omega) | (rw [if_pos (by omega), if_neg (by omega)]) | exact IntWalk.i64_in _ ⟨by omega, by omega⟩)⟩) (by assumption) ?_
     try simp only [Act.put, List.setIfInBounds_toArray, List.set_cons_zero, List.set_cons_succ]
     refine wpAnyH_take (i := 15) (oi := { dst := some 79, op := _, type := _, pos := _, after := _, guard := _ }) (v := .pointer (some ⟨b, off + k * 7 + 6, none⟩)) rfl (by kernel_rfl) (by kernel_rfl) (by kernel_rfl) (fun _ _ _ h => h) (Or.inl ⟨by kernel_rfl, fun wy hy => by (go_simp; first | done | decide | omega | exact uint_small (by omega) | (rw [if_pos (by omega), if_neg (by omega)]) | exact IntWalk.i64_in _ ⟨by omega, by omega⟩)⟩) (by assumption) ?_
     try simp only [Act.put, List.setIfInBounds_toArray, List.set_cons_zero, List.set_cons_succ]
     refine wpAnyH_take (i := 16) (oi := { dst := some 80, op := _, type := _, pos := _, after := _, guard := _ }) (v := .slice p3 z3 q3) rfl (by kernel_rfl) (by kernel_rfl) (by kernel_rfl) (fun _ _ _ h => h) (Or.inl ⟨by kernel_rfl, fun wy hy => by (have f6 := (HVa.out _ (HB4.out.trans (hy.mono HB4.out.size))).1; go_simp; done)⟩) (by assumption) ?_
     try simp only [Act.put, List.setIfInBounds_toArray, List.set_cons_zero, List.set_cons_succ]
     have hU0 : ∀ wx, Below X4.heap.size X4 wx → Calls Tryz.prog 59 #[.int .u64 0] wx fun e w' => ∃ a m c, e = .returned (.slice a m c) ∧ Own w' wx.heap.size (.slice a m c) m (uintL 0) ∧ Below wx.heap.size wx w' := fun wx _ => by
      have := refUint_any 0 (by have := HKp.out; omega) wx
      simpa using this
     refine wpAnyH_ready (rs := [3]) (by kernel_rfl) (by simp) ?_
     refine AllReadyH.cons (o := { dst := some 67, op := _, type := _, pos := _, after := _, guard := _ }) rfl (fun KK hK => ?_) AllReadyH.nil
     go_simp
     go_at_call 59
     refine (hU0 _ BD).mono ?_
     rintro e9 Y1 ⟨au, mu, cu, rfl, ownu, hbu⟩
     have bY1 : Below X4.heap.size X4 Y1 := BD.trans (hbu.mono BD.size)
     have hmu : Hid (mu = (uintL 0).length) := ownu.1
     have hmu10 : mu ≤ 10 := by rw [hmu.out]; exact (uintL_len _).2
     clear hbu ownu hU0 BD
     go_wp2_with fail
     refine hK.out _ _ bY1 (fun hHeld => ?_)
     clear hK
     try simp only [Act.put, List.setIfInBounds_toArray, List.set_cons_zero, List.set_cons_succ]
     refine wpAnyH_take (i := 4) (oi := { dst := some 68, op := _, type := _, pos := _, after := _, guard := _ }) (v := .int .i64 (mu : Int)) rfl (by kernel_rfl) (by kernel_rfl) (by kernel_rfl) (fun _ _ _ h => h) (Or.inl ⟨by kernel_rfl, fun wy hy => by (go_simp; first | done | decide | omega | exact uint_small (by omega) | (rw [if_pos (by omega), if_neg (by omega)]) | exact IntWalk.i64_in _ ⟨by omega, by omega⟩)⟩) (by assumption) ?_
     try simp only [Act.put, List.setIfInBounds_toArray, List.set_cons_zero, List.set_cons_succ]
     refine wpAnyH_take (i := 5) (oi := { dst := some 69, op := _, type := _, pos := _, after := _, guard := _ }) (v := .int .i64 ((sz + 4 + mu : Nat) : Int)) rfl (by kernel_rfl) (by kernel_rfl) (by kernel_rfl) (fun _ _ _ h => h) (Or.inl ⟨by kernel_rfl, fun wy hy => by (go_simp; first | done | decide | omega | exact uint_small (by omega) | (rw [if_pos (by omega), if_neg (by omega)]) | exact IntWalk.i64_in _ ⟨by omega, by omega⟩)⟩) (by assumption) ?_
     try simp only [Act.put, List.setIfInBounds_toArray, List.set_cons_zero, List.set_cons_succ]
     have rdKs : ∀ wx, Below X4.heap.size X4 wx → Rd wx (.slice (some ⟨gk, 0, none⟩) mk ck) (K.drop 0) := fun wx hx => by
      have h := (HRk.out.later hx).past 0 (by omega) (off' := 0 + 0) (n' := mk - 0) (cap' := ck - 0) rfl rfl rfl
      simpa using h
     refine wpAnyH_ready (rs := [9]) (by kernel_rfl) (by simp) ?_
     refine AllReadyH.cons (o := { dst := some 73, op := _, type := _, pos := _, after := _, guard := _ }) rfl (fun KK hK => ?_) AllReadyH.nil
     go_simp
     go_at_call 60
     refine (refBytes_any (rdKs _ bY1) (by rw [List.length_drop]; omega)).mono ?_
     rintro e9 Y2 ⟨aw, mw, cw, rfl, ownw, hbw⟩
     have bY2 : Below X4.heap.size X4 Y2 := bY1.trans (hbw.mono bY1.size)
     have hmw : Hid (mw = (bytesL (K.drop 0)).length) := ownw.1
     have hmw3 : mw ≤ 3000 := by
      have h1 := bytesL_len (K.drop 0)
      rw [← hmw.out, List.length_drop] at h1
      omega
     clear hbw ownw rdKs bY1
     go_wp2_with fail
     refine hK.out _ _ bY2 (fun hHeld => ?_)
     clear hK
     try simp only [Act.put, List.setIfInBounds_toArray, List.set_cons_zero, List.set_cons_succ]
     refine wpAnyH_take (i := 10) (oi := { dst := some 74, op := _, type := _, pos := _, after := _, guard := _ }) (v := .int .i64 (mw : Int)) rfl (by kernel_rfl) (by kernel_rfl) (by kernel_rfl) (fun _ _ _ h => h) (Or.inl ⟨by kernel_rfl, fun wy hy => by (go_simp; first | done | decide | omega | exact uint_small (by omega) | (rw [if_pos (by omega), if_neg (by omega)]) | exact IntWalk.i64_in _ ⟨by omega, by omega⟩)⟩) (by assumption) ?_
     try simp only [Act.put, List.setIfInBounds_toArray, List.set_cons_zero, List.set_cons_succ]
     refine wpAnyH_take (i := 11) (oi := { dst := some 75, op := _, type := _, pos := _, after := _, guard := _ }) (v := .int .i64 ((sz + 4 + mu + mw : Nat) : Int)) rfl (by kernel_rfl) (by kernel_rfl) (by kernel_rfl) (fun _ _ _ h => h) (Or.inl ⟨by kernel_rfl, fun wy hy => by (go_simp; first | done | decide | omega | exact uint_small (by omega) | (rw [if_pos (by omega), if_neg (by omega)]) | exact IntWalk.i64_in _ ⟨by omega, by omega⟩)⟩) (by assumption) ?_
     try simp only [Act.put, List.setIfInBounds_toArray, List.set_cons_zero, List.set_cons_succ]
     have rdV := (HVa.out _ (HB4.out.trans (bY2.mono HB4.out.size))).2
     refine wpAnyH_ready (rs := [17]) (by kernel_rfl) (by simp) ?_
     refine AllReadyH.cons (o := { dst := some 81, op := _, type := _, pos := _, after := _, guard := _ }) rfl (fun KK hK => ?_) AllReadyH.nil
     go_simp
     go_at_call 60
     refine (refBytes_any rdV (by have := (rd_lens rdV).1; omega)).mono ?_
     rintro e9 Y3 ⟨ax, mx, cx, rfl, ownx, hbx⟩
     have bY3 : Below X4.heap.size X4 Y3 := bY2.trans (hbx.mono bY2.size)
     have hmx : Hid (mx = (bytesL V).length) := ownx.1
     have hmx5 : mx ≤ 5000 := by
      have h1 := bytesL_len V
      rw [← hmx.out] at h1
      omega
     clear hbx ownx rdV bY2
     go_wp2_with fail
     refine hK.out _ _ bY3 (fun hHeld => ?_)
     clear hK
     try simp only [Act.put, List.setIfInBounds_toArray, List.set_cons_zero, List.set_cons_succ]
     refine wpAnyH_take (i := 18) (oi := { dst := some 82, op := _, type := _, pos := _, after := _, guard := _ }) (v := .int .i64 (mx : Int)) rfl (by kernel_rfl) (by kernel_rfl) (by kernel_rfl) (fun _ _ _ h => h) (Or.inl ⟨by kernel_rfl, fun wy hy => by (go_simp; first | done | decide | omega | exact uint_small (by omega) | (rw [if_pos (by omega), if_neg (by omega)]) | exact IntWalk.i64_in _ ⟨by omega, by omega⟩)⟩) (by assumption) ?_
     try simp only [Act.put, List.setIfInBounds_toArray, List.set_cons_zero, List.set_cons_succ]
     refine wpAnyH_take (i := 19) (oi := { dst := some 83, op := _, type := _, pos := _, after := _, guard := _ }) (v := .int .i64 ((sz + 4 + mu + mw + mx : Nat) : Int)) rfl (by kernel_rfl) (by kernel_rfl) (by kernel_rfl) (fun _ _ _ h => h) (Or.inl ⟨by kernel_rfl, fun wy hy => by (go_simp; first | done | decide | omega | exact uint_small (by omega) | (rw [if_pos (by omega), if_neg (by omega)]) | exact IntWalk.i64_in _ ⟨by omega, by omega⟩)⟩) (by assumption) ?_
     try simp only [Act.put, List.setIfInBounds_toArray, List.set_cons_zero, List.set_cons_succ]
     refine wpAnyH_take (i := 20) (oi := { dst := some 7, op := _, type := _, pos := _, after := _, guard := _ }) (v := .int .i64 ((sz + 4 + mu + mw + mx : Nat) : Int)) rfl (by kernel_rfl) (by kernel_rfl) (by kernel_rfl) (fun _ _ _ h => h) (Or.inl ⟨by kernel_rfl, fun wy hy => by (go_simp; first | done | decide | omega | exact uint_small (by omega) | (rw [if_pos (by omega), if_neg (by omega)]) | exact IntWalk.i64_in _ ⟨by omega, by omega⟩)⟩) (by assumption) ?_
     try simp only [Act.put, List.setIfInBounds_toArray, List.set_cons_zero, List.set_cons_succ]
     refine wpAnyH_done (by kernel_rfl) (NoPanic.normal ?_) _
     clear hHeld
     obtain ⟨sz2, hsz2⟩ : ∃ sz2, sz + 4 + mu + mw + mx = sz2 := ⟨_, rfl⟩
     have hz2 : Hid (sz2 = (addB r s K V).es.length + (addB r s K V).ps.length + 9) := by
      obtain ⟨e1, e2, e3, e4, e5, e6, e7⟩ := HE.out
      unfold Hid
      simp only [addB, esOf, recL]
      rw [HShv.out, HPs.out]
      have q1 := hmu.out
      have q2 := hmw.out
      have q3 := hmx.out
      unfold bytesL at q2 q3
      simp only [List.length_append, be4, List.length_cons, List.length_nil] at q2 q3 ⊢
      omega
     have hsr : (psOf r s).length = (addB r s K V).ps.length := rfl
     have hse : (esOf r s K V).length = (addB r s K V).es.length := rfl
     have HBY := Lib.hid (HB4.out.trans (bY3.mono HB4.out.size))
     have HFl : Hid (fullB r s K V = decide (131072 < sz2)) := by
      unfold Hid fullB
      rw [hz2.out, hsr, hse]
     clear hsr hse
     by_cases hz17 : sz2 ≤ 131072
     ·have hz17i : ¬ (131072 : Int) < (sz2 : Int) := by omega
      have HZ : Hid (Bz2 W0 r l Y3 (k + 1) (.slice (some ⟨gk, 0, none⟩) mk ck) sz2 mk) := by
       obtain ⟨e1, e2, e3, e4, e5, e6, e7⟩ := HE.out
       refine ⟨addB r s K V, ?_, hz2.out, hmk.out, ?_, e6, HBY.out⟩
       ·rw [List.take_add_one, e1]
        refine bldS_snoc r _ _ e4 ?_
        rw [← e2, ← e3]
        refine addE_good HCe.out.2 (by rw [e2, ordC_swap s.la K]; have := HLt.out; omega) ?_
        rw [e2, e3, HFl.out, decide_eq_false_iff_not]; omega
       ·have h := HOk.out.later bY3
        rw [hmk.out] at h ⊢
        exact h
      clear bY3
      go_simp
      go_step
      clear hsz2
      go_wp2
      go_roundw
      case rel => exact ⟨k + 1, sz2, mk, _, _, by omega, by go_num, rfl, rfl, HZ⟩
      case measure => simp only [intOf]; omega
     ·have hz17i : (131072 : Int) < (sz2 : Int) := by omega
      have HEnd : Hid (RbA W0 r l (.returned (.tuple #[.slice none 0 0, .int .i64 53])) Y3) := by
       obtain ⟨e1, e2, e3, e4, e5, e6, e7⟩ := HE.out
       refine RbA.err (e := 53) HBY.out ?_ (by decide)
       refine bldS_fail r l k e1 e4 (by decide) ?_
       refine addE_full HCe.out.2 (by rw [e2, ordC_swap s.la K]; have := HLt.out; omega) ?_
       rw [e2, e3, HFl.out, decide_eq_true_iff]; omega
      clear bY3
      go_simp
      go_step
      clear hsz2
      go_wp2
      go_ret2
      exact HEnd.out
    ·have hzi : (((k : Int) % (r : Int)) == 0) = false := by rw [beq_eq_false_iff_ne]; omega
     have HShv : Hid (shOf r s K = cm) := by unfold Hid shOf; rw [HE.out.2.2.2.2.1, if_neg hz]; exact HCm.out
     have HPs : Hid (psOf r s = s.ps) := by unfold Hid psOf; rw [HE.out.2.2.2.2.1, if_neg hz]
     go_upto_region 19 with fail
     have BD : Below X4.heap.size X4 X4.drew := (Below.refl _ _).drew
     refine wp_region_noPanic ?_
     refine wp_region_held_drew (S := fun wx => Below X4.heap.size X4 wx) (by kernel_rfl) BD (fun hHeld => ?_)
     refine wpAnyH_take (i := 0) (oi := { dst := some 64, op := _, type := _, pos := _, after := _, guard := _ }) (v := .int .i64 ((sz : Nat) : Int)) rfl (by kernel_rfl) (by kernel_rfl) (by kernel_rfl) (fun _ _ _ h => h) (Or.inl ⟨by kernel_rfl, fun wy hy => by (go_simp; first | done | decide | omega | exact uint_small (by omega) | (rw [if_pos (by omega), if_neg (by omega)]) | exact IntWalk.i64_in _ ⟨by omega, by omega⟩)⟩) (by assumption) ?_
     try simp only [Act.put, List.setIfInBounds_toArray, List.set_cons_zero, List.set_cons_succ]
     refine wpAnyH_take (i := 1) (oi := { dst := some 65, op := _, type := _, pos := _, after := _, guard := _ }) (v := .int .i64 (cm : Int)) rfl (by kernel_rfl) (by kernel_rfl) (by kernel_rfl) (fun _ _ _ h => h) (Or.inl ⟨by kernel_rfl, fun wy hy => by (go_simp; first | done | decide | omega | exact uint_small (by omega) | (rw [if_pos (by omega), if_neg (by omega)]) | exact IntWalk.i64_in _ ⟨by omega, by omega⟩)⟩) (by assumption) ?_
     try simp only [Act.put, List.setIfInBounds_toArray, List.set_cons_zero, List.set_cons_succ]
     refine wpAnyH_take (i := 2) (oi := { dst := some 66, op := _, type := _, pos := _, after := _, guard := _ }) (v := .int .u64 (cm : Int)) rfl (by kernel_rfl) (by kernel_rfl) (by kernel_rfl) (fun _ _ _ h => h) (Or.inl ⟨by kernel_rfl, fun wy hy => by (go_simp; first | done | decide | omega | exact uint_small (by omega) | (rw [if_pos (by omega), if_neg (by omega)]) | exact IntWalk.i64_in _ ⟨by omega, by omega⟩)⟩) (by assumption) ?_
     try simp only [Act.put, List.setIfInBounds_toArray, List.set_cons_zero, List.set_cons_succ]
     refine wpAnyH_take (i := 6) (oi := { dst := some 70, op := _, type := _, pos := _, after := _, guard := _ }) (v := .slice (some ⟨gk, 0, none⟩) mk ck) rfl (by kernel_rfl) (by kernel_rfl) (by kernel_rfl) (fun _ _ _ h => h) (Or.inl ⟨by kernel_rfl, fun wy hy => by (go_simp; first | done | decide | omega | exact uint_small (by omega) | (rw [if_pos (by omega), if_neg (by omega)]) | exact IntWalk.i64_in _ ⟨by omega, by omega⟩)⟩) (by assumption) ?_
     try simp only [Act.put, List.setIfInBounds_toArray, List.set_cons_zero, List.set_cons_succ]
     refine wpAnyH_take (i := 7) (oi := { dst := some 71, op := _, type := _, pos := _, after := _, guard := _ }) (v := .int .i64 (cm : Int)) rfl (by kernel_rfl) (by kernel_rfl) (by kernel_rfl) (fun _ _ _ h => h) (Or.inl ⟨by kernel_rfl, fun wy hy => by (go_simp; first | done | decide | omega | exact uint_small (by omega) | (rw [if_pos (by omega), if_neg (by omega)]) | exact IntWalk.i64_in _ ⟨by omega, by omega⟩)⟩) (by assumption) ?_
     try simp only [Act.put, List.setIfInBounds_toArray, List.set_cons_zero, List.set_cons_succ]
     refine wpAnyH_take (i := 8) (oi := { dst := some 72, op := _, type := _, pos := _, after := _, guard := _ }) (v := .slice (some ⟨gk, cm, none⟩) (mk - cm) (ck - cm)) rfl (by kernel_rfl) (by kernel_rfl) (by kernel_rfl) (fun _ _ _ h => h) (Or.inl ⟨by kernel_rfl, fun wy hy => by (go_simp; first | done | decide | omega | exact uint_small (by omega) | (rw [if_pos (by omega), if_neg (by omega)]) | exact IntWalk.i64_in _ ⟨by omega, by omega⟩)⟩) (by assumption) ?_
     try simp only [Act.put, List.setIfInBounds_toArray, List.set_cons_zero, List.set_cons_succ]
     refine wpAnyH_take (i := 12) (oi := { dst := some 76, op := _, type := _, pos := _, after := _, guard := _ }) (v := .slice (some ⟨b, off, none⟩) N cap) rfl (by kernel_rfl) (by kernel_rfl) (by kernel_rfl) (fun _ _ _ h => h) (Or.inl ⟨by kernel_rfl, fun wy hy => by (go_simp; first | done | decide | omega | exact uint_small (by omega) | (rw [if_pos (by omega), if_neg (by omega)]) | exact IntWalk.i64_in _ ⟨by omega, by omega⟩)⟩) (by assumption) ?_
     try simp only [Act.put, List.setIfInBounds_toArray, List.set_cons_zero, List.set_cons_succ]
     refine wpAnyH_take (i := 13) (oi := { dst := some 77, op := _, type := _, pos := _, after := _, guard := _ }) (v := .int .i64 (k : Int)) rfl (by kernel_rfl) (by kernel_rfl) (by kernel_rfl) (fun _ _ _ h => h) (Or.inl ⟨by kernel_rfl, fun wy hy => by (go_simp; first | done | decide | omega | exact uint_small (by omega) | (rw [if_pos (by omega), if_neg (by omega)]) | exact IntWalk.i64_in _ ⟨by omega, by omega⟩)⟩) (by assumption) ?_
     try simp only [Act.put, List.setIfInBounds_toArray, List.set_cons_zero, List.set_cons_succ]
     refine wpAnyH_take (i := 14) (oi := { dst := some 78, op := _, type := _, pos := _, after := _, guard := _ }) (v := .pointer (some ⟨b, off + k * 7, none⟩)) rfl (by kernel_rfl) (by kernel_rfl) (by kernel_rfl) (fun _ _ _ h => h) (Or.inl ⟨by kernel_rfl, fun wy hy => by (go_simp; first | done | decide | omega | exact uint_small (by omega) | (rw [if_pos (by omega), if_neg (by omega)]) | exact IntWalk.i64_in _ ⟨by omega, by omega⟩)⟩) (by assumption) ?_
     try simp only [Act.put, List.setIfInBounds_toArray, List.set_cons_zero, List.set_cons_succ]
     refine wpAnyH_take (i := 15) (oi := { dst := some 79, op := _, type := _, pos := _, after := _, guard := _ }) (v := .pointer (some ⟨b, off + k * 7 + 6, none⟩)) rfl (by kernel_rfl) (by kernel_rfl) (by kernel_rfl) (fun _ _ _ h => h) (Or.inl ⟨by kernel_rfl, fun wy hy => by (go_simp; first | done | decide | omega | exact uint_small (by omega) | (rw [if_pos (by omega), if_neg (by omega)]) | exact IntWalk.i64_in _ ⟨by omega, by omega⟩)⟩) (by assumption) ?_
     try simp only [Act.put, List.setIfInBounds_toArray, List.set_cons_zero, List.set_cons_succ]
     refine wpAnyH_take (i := 16) (oi := { dst := some 80, op := _, type := _, pos := _, after := _, guard := _ }) (v := .slice p3 z3 q3) rfl (by kernel_rfl) (by kernel_rfl) (by kernel_rfl) (fun _ _ _ h => h) (Or.inl ⟨by kernel_rfl, fun wy hy => by (have f6 := (HVa.out _ (HB4.out.trans (hy.mono HB4.out.size))).1; go_simp; done)⟩) (by assumption) ?_
     try simp only [Act.put, List.setIfInBounds_toArray, List.set_cons_zero, List.set_cons_succ]
     have hU0 : ∀ wx, Below X4.heap.size X4 wx → Calls Tryz.prog 59 #[.int .u64 (cm : Int)] wx fun e w' => ∃ a m c, e = .returned (.slice a m c) ∧ Own w' wx.heap.size (.slice a m c) m (uintL cm) ∧ Below wx.heap.size wx w' := fun wx _ => by
      have := refUint_any cm (by have := HKp.out; omega) wx
      simpa using this
     refine wpAnyH_ready (rs := [3]) (by kernel_rfl) (by simp) ?_
     refine AllReadyH.cons (o := { dst := some 67, op := _, type := _, pos := _, after := _, guard := _ }) rfl (fun KK hK => ?_) AllReadyH.nil
     go_simp
     go_at_call 59
     refine (hU0 _ BD).mono ?_
     rintro e9 Y1 ⟨au, mu, cu, rfl, ownu, hbu⟩
     have bY1 : Below X4.heap.size X4 Y1 := BD.trans (hbu.mono BD.size)
     have hmu : Hid (mu = (uintL cm).length) := ownu.1
     have hmu10 : mu ≤ 10 := by rw [hmu.out]; exact (uintL_len _).2
     clear hbu ownu hU0 BD
     go_wp2_with fail
     refine hK.out _ _ bY1 (fun hHeld => ?_)
     clear hK
     try simp only [Act.put, List.setIfInBounds_toArray, List.set_cons_zero, List.set_cons_succ]
     refine wpAnyH_take (i := 4) (oi := { dst := some 68, op := _, type := _, pos := _, after := _, guard := _ }) (v := .int .i64 (mu : Int)) rfl (by kernel_rfl) (by kernel_rfl) (by kernel_rfl) (fun _ _ _ h => h) (Or.inl ⟨by kernel_rfl, fun wy hy => by (go_simp; first | done | decide | omega | exact uint_small (by omega) | (rw [if_pos (by omega), if_neg (by omega)]) | exact IntWalk.i64_in _ ⟨by omega, by omega⟩)⟩) (by assumption) ?_
     try simp only [Act.put, List.setIfInBounds_toArray, List.set_cons_zero, List.set_cons_succ]
     refine wpAnyH_take (i := 5) (oi := { dst := some 69, op := _, type := _, pos := _, after := _, guard := _ }) (v := .int .i64 ((sz + mu : Nat) : Int)) rfl (by kernel_rfl) (by kernel_rfl) (by kernel_rfl) (fun _ _ _ h => h) (Or.inl ⟨by kernel_rfl, fun wy hy => by (go_simp; first | done | decide | omega | exact uint_small (by omega) | (rw [if_pos (by omega), if_neg (by omega)]) | exact IntWalk.i64_in _ ⟨by omega, by omega⟩)⟩) (by assumption) ?_
     try simp only [Act.put, List.setIfInBounds_toArray, List.set_cons_zero, List.set_cons_succ]
     have rdKs : ∀ wx, Below X4.heap.size X4 wx → Rd wx (.slice (some ⟨gk, cm, none⟩) (mk - cm) (ck - cm)) (K.drop cm) := fun wx hx => by
      have h := (HRk.out.later hx).past cm (by omega) (off' := 0 + cm) (n' := mk - cm) (cap' := ck - cm) rfl rfl rfl
      simpa using h
     refine wpAnyH_ready (rs := [9]) (by kernel_rfl) (by simp) ?_
     refine AllReadyH.cons (o := { dst := some 73, op := _, type := _, pos := _, after := _, guard := _ }) rfl (fun KK hK => ?_) AllReadyH.nil
     go_simp
     go_at_call 60
     refine (refBytes_any (rdKs _ bY1) (by rw [List.length_drop]; omega)).mono ?_
     rintro e9 Y2 ⟨aw, mw, cw, rfl, ownw, hbw⟩
     have bY2 : Below X4.heap.size X4 Y2 := bY1.trans (hbw.mono bY1.size)
     have hmw : Hid (mw = (bytesL (K.drop cm)).length) := ownw.1
     have hmw3 : mw ≤ 3000 := by
      have h1 := bytesL_len (K.drop cm)
      rw [← hmw.out, List.length_drop] at h1
      omega
     clear hbw ownw rdKs bY1
     go_wp2_with fail
     refine hK.out _ _ bY2 (fun hHeld => ?_)
     clear hK
     try simp only [Act.put, List.setIfInBounds_toArray, List.set_cons_zero, List.set_cons_succ]
     refine wpAnyH_take (i := 10) (oi := { dst := some 74, op := _, type := _, pos := _, after := _, guard := _ }) (v := .int .i64 (mw : Int)) rfl (by kernel_rfl) (by kernel_rfl) (by kernel_rfl) (fun _ _ _ h => h) (Or.inl ⟨by kernel_rfl, fun wy hy => by (go_simp; first | done | decide | omega | exact uint_small (by omega) | (rw [if_pos (by omega), if_neg (by omega)]) | exact IntWalk.i64_in _ ⟨by omega, by omega⟩)⟩) (by assumption) ?_
     try simp only [Act.put, List.setIfInBounds_toArray, List.set_cons_zero, List.set_cons_succ]
     refine wpAnyH_take (i := 11) (oi := { dst := some 75, op := _, type := _, pos := _, after := _, guard := _ }) (v := .int .i64 ((sz + mu + mw : Nat) : Int)) rfl (by kernel_rfl) (by kernel_rfl) (by kernel_rfl) (fun _ _ _ h => h) (Or.inl ⟨by kernel_rfl, fun wy hy => by (go_simp; first | done | decide | omega | exact uint_small (by omega) | (rw [if_pos (by omega), if_neg (by omega)]) | exact IntWalk.i64_in _ ⟨by omega, by omega⟩)⟩) (by assumption) ?_
     try simp only [Act.put, List.setIfInBounds_toArray, List.set_cons_zero, List.set_cons_succ]
     have rdV := (HVa.out _ (HB4.out.trans (bY2.mono HB4.out.size))).2
     refine wpAnyH_ready (rs := [17]) (by kernel_rfl) (by simp) ?_
     refine AllReadyH.cons (o := { dst := some 81, op := _, type := _, pos := _, after := _, guard := _ }) rfl (fun KK hK => ?_) AllReadyH.nil
     go_simp
     go_at_call 60
     refine (refBytes_any rdV (by have := (rd_lens rdV).1; omega)).mono ?_
     rintro e9 Y3 ⟨ax, mx, cx, rfl, ownx, hbx⟩
     have bY3 : Below X4.heap.size X4 Y3 := bY2.trans (hbx.mono bY2.size)
     have hmx : Hid (mx = (bytesL V).length) := ownx.1
     have hmx5 : mx ≤ 5000 := by
      have h1 := bytesL_len V
      rw [← hmx.out] at h1
      omega
     clear hbx ownx rdV bY2
     go_wp2_with fail
     refine hK.out _ _ bY3 (fun hHeld => ?_)
     clear hK
     try simp only [Act.put, List.setIfInBounds_toArray, List.set_cons_zero, List.set_cons_succ]
     refine wpAnyH_take (i := 18) (oi := { dst := some 82, op := _, type := _, pos := _, after := _, guard := _ }) (v := .int .i64 (mx : Int)) rfl (by kernel_rfl) (by kernel_rfl) (by kernel_rfl) (fun _ _ _ h => h) (Or.inl ⟨by kernel_rfl, fun wy hy => by (go_simp; first | done | decide | omega | exact uint_small (by omega) | (rw [if_pos (by omega), if_neg (by omega)]) | exact IntWalk.i64_in _ ⟨by omega, by omega⟩)⟩) (by assumption) ?_
     try simp only [Act.put, List.setIfInBounds_toArray, List.set_cons_zero, List.set_cons_succ]
     refine wpAnyH_take (i := 19) (oi := { dst := some 83, op := _, type := _, pos := _, after := _, guard := _ }) (v := .int .i64 ((sz + mu + mw + mx : Nat) : Int)) rfl (by kernel_rfl) (by kernel_rfl) (by kernel_rfl) (fun _ _ _ h => h) (Or.inl ⟨by kernel_rfl, fun wy hy => by (go_simp; first | done | decide | omega | exact uint_small (by omega) | (rw [if_pos (by omega), if_neg (by omega)]) | exact IntWalk.i64_in _ ⟨by omega, by omega⟩)⟩) (by assumption) ?_
     try simp only [Act.put, List.setIfInBounds_toArray, List.set_cons_zero, List.set_cons_succ]
     refine wpAnyH_take (i := 20) (oi := { dst := some 7, op := _, type := _, pos := _, after := _, guard := _ }) (v := .int .i64 ((sz + mu + mw + mx : Nat) : Int)) rfl (by kernel_rfl) (by kernel_rfl) (by kernel_rfl) (fun _ _ _ h => h) (Or.inl ⟨by kernel_rfl, fun wy hy => by (go_simp; first | done | decide | omega | exact uint_small (by omega) | (rw [if_pos (by omega), if_neg (by omega)]) | exact IntWalk.i64_in _ ⟨by omega, by omega⟩)⟩) (by assumption) ?_
     try simp only [Act.put, List.setIfInBounds_toArray, List.set_cons_zero, List.set_cons_succ]
     refine wpAnyH_done (by kernel_rfl) (NoPanic.normal ?_) _
     clear hHeld
     obtain ⟨sz2, hsz2⟩ : ∃ sz2, sz + mu + mw + mx = sz2 := ⟨_, rfl⟩
     have hz2 : Hid (sz2 = (addB r s K V).es.length + (addB r s K V).ps.length + 9) := by
      obtain ⟨e1, e2, e3, e4, e5, e6, e7⟩ := HE.out
      unfold Hid
      simp only [addB, esOf, recL]
      rw [HShv.out, HPs.out]
      have q1 := hmu.out
      have q2 := hmw.out
      have q3 := hmx.out
      unfold bytesL at q2 q3
      simp only [List.length_append] at q2 q3 ⊢
      omega
     have hsr : (psOf r s).length = (addB r s K V).ps.length := rfl
     have hse : (esOf r s K V).length = (addB r s K V).es.length := rfl
     have HBY := Lib.hid (HB4.out.trans (bY3.mono HB4.out.size))
     have HFl : Hid (fullB r s K V = decide (131072 < sz2)) := by
      unfold Hid fullB
      rw [hz2.out, hsr, hse]
     clear hsr hse
     by_cases hz17 : sz2 ≤ 131072
     ·have hz17i : ¬ (131072 : Int) < (sz2 : Int) := by omega
      have HZ : Hid (Bz2 W0 r l Y3 (k + 1) (.slice (some ⟨gk, 0, none⟩) mk ck) sz2 mk) := by
       obtain ⟨e1, e2, e3, e4, e5, e6, e7⟩ := HE.out
       refine ⟨addB r s K V, ?_, hz2.out, hmk.out, ?_, e6, HBY.out⟩
       ·rw [List.take_add_one, e1]
        refine bldS_snoc r _ _ e4 ?_
        rw [← e2, ← e3]
        refine addE_good HCe.out.2 (by rw [e2, ordC_swap s.la K]; have := HLt.out; omega) ?_
        rw [e2, e3, HFl.out, decide_eq_false_iff_not]; omega
       ·have h := HOk.out.later bY3
        rw [hmk.out] at h ⊢
        exact h
      clear bY3
      go_simp
      go_step
      clear hsz2
      go_wp2
      go_roundw
      case rel => exact ⟨k + 1, sz2, mk, _, _, by omega, by go_num, rfl, rfl, HZ⟩
      case measure => simp only [intOf]; omega
     ·have hz17i : (131072 : Int) < (sz2 : Int) := by omega
      have HEnd : Hid (RbA W0 r l (.returned (.tuple #[.slice none 0 0, .int .i64 53])) Y3) := by
       obtain ⟨e1, e2, e3, e4, e5, e6, e7⟩ := HE.out
       refine RbA.err (e := 53) HBY.out ?_ (by decide)
       refine bldS_fail r l k e1 e4 (by decide) ?_
       refine addE_full HCe.out.2 (by rw [e2, ordC_swap s.la K]; have := HLt.out; omega) ?_
       rw [e2, e3, HFl.out, decide_eq_true_iff]; omega
      clear bY3
      go_simp
      go_step
      clear hsz2
      go_wp2
      go_ret2
      exact HEnd.out
  ·have hge : ¬ (k : Int) < (N : Int) := by omega
   obtain rfl : k = N := by omega
   obtain ⟨s, hs, hsz, hnl, hown, hbyl, hbel⟩ := HU.out.st
   rw [HN.out, List.take_length] at hs
   have hb0 : (bldS r Bs.zero l).1 = 0 := by rw [hs]
   obtain ⟨-, hcs, -, -⟩ := bldS_fold r l Bs.zero hb0
   by_cases hN0 : k = 0
   ·have hl0 : l = [] := List.eq_nil_of_length_eq_zero (by rw [← HN.out]; exact hN0)
    have HEnd : Hid (RbA W0 r l (.returned (.tuple #[.slice none 0 0, .int .i64 54])) wr) := ⟨hbel, none, 0, 0, 54, rfl, fun h => absurd hb0 h, fun _ _ => ⟨rfl, rfl⟩, fun _ h => absurd hl0 h⟩
    have hN0b : ((k : Int) == 0) = true := by rw [beq_iff_eq]; omega
    clear hs hsz hnl hown hbyl hbel HU hl0 hb0 hcs
    go_wp2
    go_ret2
    exact HEnd.out
   ·have hne : l ≠ [] := fun h => hN0 (by rw [HN.out, h]; rfl)
    have hN0b : ((k : Int) == 0) = false := by rw [beq_eq_false_iff_ne]; omega
    have HLay := lay_any (HR.out.later hbel) (laid_of hr1 hr16 hb0 hne) hcs
    rw [← HN.out] at HLay
    have HLy := Lib.hid HLay
    have HB := Lib.hid hbel
    have HNe := Lib.hid (And.intro hb0 hne)
    clear hs hsz hnl hown hbyl hbel HLay HU hcs hb0 hne
    go_wp2_with fail
    refine Calls.mono HLy.out ?_
    rintro z X9 ⟨a9, m9, c9, rfl, own9, b9⟩
    have HEnd : Hid (RbA W0 r l (.returned (.tuple #[.slice a9 m9 c9, .int .i64 0])) X9) := ⟨HB.out.trans (b9.mono HB.out.size), a9, m9, c9, 0, rfl, fun h => absurd HNe.out.1 h, fun _ h => absurd h HNe.out.2, fun _ _ => ⟨rfl, by rw [← HN.out]; exact own9.mono HB.out.size⟩⟩
    clear own9 b9 HLy
    go_wp2
    go_ret2
    exact HEnd.out
theorem rbp_of {W w' : World} {r : Nat} {l : List EntD} {x : Ending} (h : RbA W r l x w') (h0 : (bldS r Bs.zero l).1 = 0) (hne : l ≠ []) : RbP W (blockL (bldS r Bs.zero l).2.es (bldS r Bs.zero l).2.ps l.length r) x w' := by
 obtain ⟨b, a, m, c, E, rfl, -, -, k⟩ := h
 obtain ⟨rfl, o⟩ := k h0 hne
 exact ⟨a, m, c, rfl, o, b⟩
end Go.Proofs.YtchebhafabhabaaGreatDoor
