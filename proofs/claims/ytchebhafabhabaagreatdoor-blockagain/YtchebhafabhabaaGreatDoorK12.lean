import Derived.Test.YtchebhafabhabaaGreatDoorK11
namespace Go.Proofs.YtchebhafabhabaaGreatDoor
open Go.RowKit Go.Shelf
set_option linter.unusedVariables false

theorem Cell1B.later {w w' : World} {g t : Nat} {v : Value} (h : Cell1B w g v t) (b : Below w.heap.size w w') : Cell1B w' g v t := h.fb (O := fun _ => False) (Fb.of_below b) id
set_option maxRecDepth 100000 in
set_option maxHeartbeats 4000000 in
theorem at_in {W : World} {g r b ne ce np cp B : Nat} {E P : List Nat} {l : List (List Nat × List Nat)} (hL : Blad r l E P) (hk : Lk W B g r l.length b ne ce E P np cp) (i : Nat) (hi : i < l.length) :
    Calls Tryz.prog 34 #[.pointer (some ⟨g, 0, none⟩), .int .i64 (i : Int)] W fun x w' => AtP W l (i : Int) x w' := by
  obtain ⟨X, hX, bX, sX, cX, eX⟩ := two_at W (i : Int)
  have HX := Lib.hid hX
  obtain ⟨N, hN⟩ : ∃ N, N = l.length := ⟨_, rfl⟩
  have hN32 : N < 4294967296 := by have := hL.few; have := hL.size; omega
  obtain ⟨q0, q1, q2, q3⟩ := (hk.box.later bX).cells
  rw [← hN] at q1 hi
  have d0 := cX.cell
  have hr1 := hL.r1
  have hr16 := hL.r16
  obtain ⟨q, hq⟩ : ∃ q, i / r = q := ⟨_, rfl⟩
  have hqi : (i : Int) / (r : Int) = (q : Int) := by rw [← hq]; exact (Int.natCast_ediv _ _).symm
  have hqr : q * r ≤ i := by rw [← hq]; exact Nat.div_mul_le_self _ _
  have hqle : q ≤ i := by rw [← hq]; exact Nat.div_le_self _ _
  obtain ⟨m, hm⟩ : ∃ m, q * r = m := ⟨_, rfl⟩
  have hmi : (q : Int) * (r : Int) = (m : Int) := by rw [← hm]; exact (Int.natCast_mul _ _).symm
  rw [hm] at hqr
  have HM := Lib.hid hm
  clear hm
  have hi0 : ¬ (i : Int) < 0 := by omega
  have hiN : (i : Int) < (N : Int) := by omega
  have hiN2 : ¬ (N : Int) ≤ (i : Int) := by omega
  have hr0 : ¬ (r : Int) = 0 := by omega
  have HL := Lib.hid hL
  have HK := Lib.hid hk
  have HN := Lib.hid hN
  have HBX := Lib.hid bX
  have HSX := Lib.hid sX
  have HCX := Lib.hid cX
  have HEX := Lib.hid eX
  have HQ := Lib.hid hq
  clear hL hk hN bX sX cX eX hX hq
  go_enter Tryz.func34, Tryz.ntmps34
  go_upto_region 1 with fail
  rw [← HX.out]
  clear HX
  go_quiet (fail)
  have bY := below_drewN (Below.refl X.heap.size X) nq
  have HBY := Lib.hid bY
  generalize X.drewN nq = Y at *
  have HSY := Lib.hid (show X.heap.size ≤ Y.heap.size from bY.size)
  have d1 : Y.cell? ⟨W.heap.size, 0, none⟩ = some (.int .i64 (i : Int)) := (HCX.out.fb (O := fun _ => False) (Fb.of_below bY) id).cell
  obtain ⟨p0, p1, p2, p3⟩ := ((HK.out.box.later HBX.out).later bY).cells
  clear bY q0 q1 q2 q3 d0
  go_upto_region 4 with fail
  have hE2 : EBox (Y.alloc (.cells #[.slice none 0 0, .int .i64 0, .slice none 0 0, .int .i64 0, .int .i64 0, .int .i64 0, .slice none 0 0] 40)) Y.heap.size ⟨.slice none 0 0, 0, .slice none 0 0, 0, 0, 0, .slice none 0 0, [], [], []⟩ := EBox.new Y ⟨.slice none 0 0, 0, .slice none 0 0, 0, 0, 0, .slice none 0 0, [], [], []⟩
  have b2 : Below Y.heap.size Y (Y.alloc (.cells #[.slice none 0 0, .int .i64 0, .slice none 0 0, .int .i64 0, .int .i64 0, .int .i64 0, .slice none 0 0] 40)) := (Below.refl _ _).alloc (Nat.le_refl _) _
  have s2 : (Y.alloc (.cells #[.slice none 0 0, .int .i64 0, .slice none 0 0, .int .i64 0, .int .i64 0, .int .i64 0, .slice none 0 0] 40)).heap.size = Y.heap.size + 1 := by simp
  obtain ⟨Y2, hY2⟩ : ∃ Y2, Y2 = Y.alloc (.cells #[.slice none 0 0, .int .i64 0, .slice none 0 0, .int .i64 0, .int .i64 0, .int .i64 0, .slice none 0 0] 40) := ⟨_, rfl⟩
  rw [← hY2] at hE2 b2 s2 ⊢
  have hd2 : Y2.cell? ⟨W.heap.size, 0, none⟩ = some (.int .i64 (i : Int)) := by
    rw [b2.cell (p := ⟨W.heap.size, 0, none⟩) (World.block_lt_of_cell? Y _ d1)]; exact d1
  obtain ⟨q0, q1, q2, q3⟩ := (((HK.out.box.later HBX.out).later HBY.out).later b2).cells
  have HE2 := Lib.hid hE2
  have HB2 := Lib.hid b2
  have HS2 := Lib.hid s2
  clear hE2 b2 s2 hY2 p0 p1 p2 p3 d1
  go_quiet (fail)
  have bV := below_drewN (Below.refl Y2.heap.size Y2) nq
  generalize Y2.drewN nq = V at *
  have hWV : Below W.heap.size W V := ((HBX.out.trans (HBY.out.mono HBX.out.size)).trans (HB2.out.mono (Nat.le_trans HBX.out.size HBY.out.size))).trans (bV.mono (by have := HBX.out.size; have := HBY.out.size; have := HB2.out.size; omega))
  have hk3 := HK.out.box.later hWV
  have hEV := HE2.out.later bV
  have hVs : Y2.heap.size ≤ V.heap.size := bV.size
  have hCV : Cell1B V W.heap.size (.int .i64 (i : Int)) 3 := ((HCX.out.later HBY.out).later HB2.out).later bV
  have hRV := (HEX.out.later HBY.out).later HB2.out |>.later bV
  have HK3 := Lib.hid hk3
  have HEV := Lib.hid hEV
  have HCV := Lib.hid hCV
  have HRV := Lib.hid hRV
  have HWV := Lib.hid hWV
  have HVS := Lib.hid hVs
  clear q0 q1 q2 q3 hd2 bV hWV hk3 hEV hCV hRV hVs
  go_upto_region 5 with fail
  have BD : Below V.heap.size V V.drew := (Below.refl _ _).drew
  have HgY : Hid (g ≠ Y.heap.size) := by
    have h1 : g < W.heap.size := (Array.getElem?_eq_some_iff.1 HK.out.box).1
    have h2 := HSY.out
    have h3 := HSX.out
    unfold Hid
    omega
  refine wp_region_noPanic ?_
  refine wp_region_held_drew (S := fun wx => Fb V wx (fun k => k = Y.heap.size)) (by kernel_rfl) (Fb.of_below BD) (fun hHeld => ?_)
  refine wpAnyH_take (i := 0) (oi := { dst := some 25, op := _, type := _, pos := _, after := _, guard := _ }) (v := .pointer (some ⟨g, 0, none⟩)) rfl (by kernel_rfl) (by kernel_rfl) (by kernel_rfl) (fun _ _ _ h => h) (Or.inl ⟨by kernel_rfl, fun wy hy => by (go_simp; first | done | omega)⟩) (by assumption) ?_
  try simp only [Act.put, List.setIfInBounds_toArray, List.set_cons_zero, List.set_cons_succ]
  refine wpAnyH_take (i := 1) (oi := { dst := some 26, op := _, type := _, pos := _, after := _, guard := _ }) (v := .int .i64 (q : Int)) rfl (by kernel_rfl) (by kernel_rfl) (by kernel_rfl) (fun _ _ _ h => h) (Or.inl ⟨by kernel_rfl, fun wy hy => by (go_simp; first | done | omega)⟩) (by assumption) ?_
  try simp only [Act.put, List.setIfInBounds_toArray, List.set_cons_zero, List.set_cons_succ]
  refine wpAnyH_take (i := 2) (oi := { dst := some 27, op := _, type := _, pos := _, after := _, guard := _ }) (v := .pointer (some ⟨g, 0, none⟩)) rfl (by kernel_rfl) (by kernel_rfl) (by kernel_rfl) (fun _ _ _ h => h) (Or.inl ⟨by kernel_rfl, fun wy hy => by (go_simp; first | done | omega)⟩) (by assumption) ?_
  try simp only [Act.put, List.setIfInBounds_toArray, List.set_cons_zero, List.set_cons_succ]
  refine wpAnyH_take (i := 3) (oi := { dst := some 28, op := _, type := _, pos := _, after := _, guard := _ }) (v := .pointer (some ⟨g, 0, none⟩)) rfl (by kernel_rfl) (by kernel_rfl) (by kernel_rfl) (fun _ _ _ h => h) (Or.inl ⟨by kernel_rfl, fun wy hy => by (go_simp; first | done | omega)⟩) (by assumption) ?_
  try simp only [Act.put, List.setIfInBounds_toArray, List.set_cons_zero, List.set_cons_succ]
  refine wpAnyH_take (i := 4) (oi := { dst := some 29, op := _, type := _, pos := _, after := _, guard := _ }) (v := .pointer (some ⟨g, 0, none⟩)) rfl (by kernel_rfl) (by kernel_rfl) (by kernel_rfl) (fun _ _ _ h => h) (Or.inl ⟨by kernel_rfl, fun wy hy => by (go_simp; first | done | omega)⟩) (by assumption) ?_
  try simp only [Act.put, List.setIfInBounds_toArray, List.set_cons_zero, List.set_cons_succ]
  refine wpAnyH_take (i := 5) (oi := { dst := some 30, op := _, type := _, pos := _, after := _, guard := _ }) (v := .int .i64 (r : Int)) rfl (by kernel_rfl) (by kernel_rfl) (by kernel_rfl) (fun _ _ _ h => h) (Or.inl ⟨by kernel_rfl, fun wy hy => by (obtain ⟨q0, q1, q2, q3⟩ := (HK3.out.fb hy HgY.out).cells; go_simp; done)⟩) (by assumption) ?_
  try simp only [Act.put, List.setIfInBounds_toArray, List.set_cons_zero, List.set_cons_succ]
  refine wpAnyH_take (i := 6) (oi := { dst := some 31, op := _, type := _, pos := _, after := _, guard := _ }) (v := .int .i64 (m : Int)) rfl (by kernel_rfl) (by kernel_rfl) (by kernel_rfl) (fun _ _ _ h => h) (Or.inl ⟨by kernel_rfl, fun wy hy => by (go_simp; first | done | exact IntWalk.i64_in _ ⟨by omega, by omega⟩)⟩) (by assumption) ?_
  try simp only [Act.put, List.setIfInBounds_toArray, List.set_cons_zero, List.set_cons_succ]
  refine wpAnyH_take (i := 7) (oi := { dst := some 32, op := _, type := _, pos := _, after := _, guard := _ }) (v := .pointer (some ⟨g, 0, none⟩)) rfl (by kernel_rfl) (by kernel_rfl) (by kernel_rfl) (fun _ _ _ h => h) (Or.inl ⟨by kernel_rfl, fun wy hy => by (go_simp; first | done | omega)⟩) (by assumption) ?_
  try simp only [Act.put, List.setIfInBounds_toArray, List.set_cons_zero, List.set_cons_succ]
  refine wpAnyH_take (i := 8) (oi := { dst := some 33, op := _, type := _, pos := _, after := _, guard := _ }) (v := .int .i64 (q : Int)) rfl (by kernel_rfl) (by kernel_rfl) (by kernel_rfl) (fun _ _ _ h => h) (Or.inl ⟨by kernel_rfl, fun wy hy => by (go_simp; first | done | omega)⟩) (by assumption) ?_
  try simp only [Act.put, List.setIfInBounds_toArray, List.set_cons_zero, List.set_cons_succ]
  refine wpAnyH_take (i := 10) (oi := { dst := some 35, op := _, type := _, pos := _, after := _, guard := _ }) (v := .func (.func 77) #[] #[.pointer (some ⟨W.heap.size, 0, none⟩), .pointer (some ⟨Y.heap.size, 0, none⟩)]) rfl (by kernel_rfl) (by kernel_rfl) (by kernel_rfl) (fun _ _ _ h => h) (Or.inl ⟨by kernel_rfl, fun wy hy => by (go_simp; first | done | omega)⟩) (by assumption) ?_
  try simp only [Act.put, List.setIfInBounds_toArray, List.set_cons_zero, List.set_cons_succ]
  refine wpAnyH_ready (rs := [9]) (by kernel_rfl) (by simp) ?_
  refine AllReadyH.cons (o := { dst := some 34, op := _, type := _, pos := _, after := _, guard := _ }) rfl (fun KK hK => ?_) AllReadyH.nil
  go_simp
  go_at_call 70
  have hqP : q * 4 + 4 ≤ P.length := by
    have e := HL.out.psl
    rw [e]
    have h1 : q + 1 ≤ (l.length + r - 1) / r := by
      rw [Nat.le_div_iff_mul_le (by omega), Nat.add_mul, HM.out]
      have := HN.out
      omega
    omega
  have hPl : P.length ≤ 131072 := by have := HL.out.size; omega
  have hVW := HWV.out
  refine (place_any ((HK3.out.later BD)) ((HK.out.pls.later hVW).later BD) q hqP hPl).mono ?_
  rintro e1 V1 ⟨rfl, hb1⟩
  have bV1 : Below V.heap.size V V1 := BD.trans (hb1.mono BD.size)
  obtain ⟨pq, hpq⟩ : ∃ pq, wordAt P q = pq := ⟨_, rfl⟩
  rw [hpq]
  obtain ⟨wf1, wf2⟩ := walk_from (AtA i) HL.out q (by rw [HM.out]; have := HN.out; omega) none
  rw [hpq] at wf1 wf2
  rw [HM.out, ← HN.out] at wf2
  have hVs : Y.heap.size + 1 ≤ V.heap.size := by have := HVS.out; have := HS2.out; omega
  have hWY : W.heap.size + 2 ≤ Y.heap.size := by have := HSY.out; have := HSX.out; omega
  have hI : AtI W.heap.size Y.heap.size i V1.heap.size (none, ⟨.slice none 0 0, 0, .slice none 0 0, 0, 0, 0, .slice none 0 0, [], [], []⟩) V1 := ⟨HCV.out.later bV1, HEV.out.later bV1, ownNil _ _, ownNil _ _, ownNil _ _, ⟨(fun x hx => by cases hx), (fun x hx => by cases hx), (fun x hx => by cases hx)⟩, ⟨by simp, by simp, by simp⟩, (fun kv h => by cases h), by have := bV1.size; omega, Nat.le_refl _⟩
  have hgW : g < W.heap.size := (Array.getElem?_eq_some_iff.1 HK.out.box).1
  have hbW : b < W.heap.size := by
    have := rd_cell HK.out.pls 0 (by rw [(rd_lens HK.out.pls).1]; omega)
    exact World.block_lt_of_cell? W _ this.1
  have hng : ∀ k, k < W.heap.size → ¬ AtO Y.heap.size ((none : Option (List Nat × List Nat)), (⟨.slice none 0 0, 0, .slice none 0 0, 0, 0, 0, .slice none 0 0, [], [], []⟩ : EntD)) k := fun k hk h => by
    rcases h with h | h | h | h
    · omega
    · cases h
    · cases h
    · cases h
  have hWV1 : Below W.heap.size W V1 := hVW.trans (bV1.mono (by omega))
  have HWk := Lib.hid (walk_any (at1_asker (gi := W.heap.size) (ge := Y.heap.size) (i := i) (N := N) (B0 := V1.heap.size) (by omega) hN32) (st := (none, ⟨.slice none 0 0, 0, .slice none 0 0, 0, 0, 0, .slice none 0 0, [], [], []⟩)) m pq (by have := HK.out.box.later hWV1; rw [← HN.out] at this; exact this) (HK.out.ents.later hWV1) (Nat.le_refl _) hI (hng g hgW) (hng b hbW) (by have := hWV1.size; omega) (by have := hWV1.size; omega) (by have := HL.out.size; omega) hN32 (by omega) wf1)
  rw [wf2] at HWk
  obtain ⟨kv, hkv⟩ : ∃ kv, l[i]? = some kv := ⟨_, List.getElem?_eq_getElem (by rw [← HN.out]; exact hi)⟩
  have hans := ask_at i E.length r (l.drop m) (foldB r Bs.zero (l.take m)) kv (by rw [foldB_n]; simp [Bs.zero]; omega) (by rw [foldB_n, List.getElem?_drop]; simp only [Bs.zero, List.length_take]; rw [← hkv]; congr 1; have := HN.out; omega)
  obtain ⟨res, hres⟩ : ∃ res, askB (AtA i) E.length (itemsB r (foldB r Bs.zero (l.take m)) (l.drop m)) none = res := ⟨_, rfl⟩
  rw [hres] at HWk hans
  obtain ⟨pz, az, sz⟩ := res
  simp only at hans
  subst hans
  have HKV := Lib.hid hkv
  have HV1 := Lib.hid bV1
  have HWV1 := Lib.hid hWV1
  have HY := Lib.hid (And.intro hVs hWY)
  clear hb1 BD wf1 wf2 hI hng hWV1 hres hkv hpq hqP hPl hVW hgW hbW hVs hWY
  go_wp2_with fail
  refine hK.out _ _ (Fb.of_below bV1) (fun hHeld => ?_)
  clear hK
  try simp only [Act.put, List.setIfInBounds_toArray, List.set_cons_zero, List.set_cons_succ]
  refine wpAnyH_ready (rs := [11]) (by kernel_rfl) (by simp) ?_
  refine AllReadyH.cons (o := { dst := some 36, op := _, type := _, pos := _, after := _, guard := _ }) rfl (fun KK hK => ?_) AllReadyH.nil
  go_simp
  go_at_call 74
  refine HWk.out.mono ?_
  rintro e1 V2 ⟨rfl, e, hI2, f2, -⟩
  have hV2 : Fb V V2 (fun k => k = Y.heap.size) := (Fb.of_below HV1.out).trans (f2.mono (fun k _ h => by
    rcases h with h | h | h | h
    · exact h
    · cases h
    · cases h
    · cases h))
  have hW2 : Below W.heap.size W V2 := ⟨hV2.os.trans HWV.out.os, hV2.tape.trans HWV.out.tape, hV2.output.trans HWV.out.output, Nat.le_trans HWV.out.size hV2.size, fun k hk => (hV2.block k (Nat.lt_of_lt_of_le hk HWV.out.size) (by have := HY.out; omega)).trans (HWV.out.block k hk)⟩
  have hR2 : EBox V2 (W.heap.size + 1) ⟨.slice none 0 0, 0, .slice none 0 0, 0, 0, 0, .slice none 0 0, [], [], []⟩ := HRV.out.fb hV2 (by have := HY.out; omega)
  have HI2 := Lib.hid hI2
  have HW2 := Lib.hid hW2
  have HR2 := Lib.hid hR2
  clear hI2 f2 hW2 hR2 HWk
  go_wp2_with fail
  refine hK.out _ _ hV2 (fun hHeld => ?_)
  clear hK
  try simp only [Act.put, List.setIfInBounds_toArray, List.set_cons_zero, List.set_cons_succ]
  refine wpAnyH_done (by kernel_rfl) (NoPanic.normal ?_) _
  clear hHeld hV2
  go_simp
  go_step
  obtain ⟨e0, e1, e2, e3, e4, e5, e6⟩ := HI2.out.e.cells7
  obtain ⟨g0, g1, g2, g3, g4, g5, g6⟩ := HR2.out.cells7
  obtain ⟨gf0, gf1, gf2, gf3, gf4, gf5, gf6⟩ := EBox.fz7b HR2.out
  simp only at e0 e1 e2 e3 e4 e5 e6 g0 g1 g2 g3 g4 g5 g6
  obtain ⟨ve, fam, vq, ts, seq, kind, vv, row, qual, val⟩ := e
  have y1 := HI2.out.o1
  have y2 := HI2.out.o2
  have y3 := HI2.out.o3
  simp only at y1 y2 y3 e0 e1 e2 e3 e4 e5 e6
  obtain ⟨ar, cr, rfl⟩ := own_form y1.2
  obtain ⟨aq, cq, rfl⟩ := own_form y2.2
  obtain ⟨aw, cw, rfl⟩ := own_form y3.2
  obtain ⟨mr, hmr⟩ : ∃ mr, row.length = mr := ⟨_, rfl⟩
  obtain ⟨mq, hmq⟩ : ∃ mq, qual.length = mq := ⟨_, rfl⟩
  obtain ⟨mw, hmw⟩ : ∃ mw, val.length = mw := ⟨_, rfl⟩
  rw [hmr] at e0
  rw [hmq] at e2
  rw [hmw] at e6
  have bx := filled_box HR2.out (⟨.slice ar mr cr, fam, .slice aq mq cq, ts, seq, kind, .slice aw mw cw, row, qual, val⟩ : EntD)
  have ap := filled_apart V2 (W.heap.size + 1) (⟨.slice ar mr cr, fam, .slice aq mq cq, ts, seq, kind, .slice aw mw cw, row, qual, val⟩ : EntD)
  have hfin : AtP W l (i : Int) (.returned (.tuple #[.agg #[.slice ar mr cr, .int .i64 fam, .slice aq mq cq, .int .i64 ts, .int .i64 seq, .int .i64 kind, .slice aw mw cw], .int .i64 0])) (filled V2 (W.heap.size + 1) (⟨.slice ar mr cr, fam, .slice aq mq cq, ts, seq, kind, .slice aw mw cw, row, qual, val⟩ : EntD)) := by
    have hok := HL.out.ok kv (List.mem_of_getElem? HKV.out)
    have hb := HI2.out.by_
    have hln := HI2.out.len
    obtain ⟨fk, fc⟩ := HI2.out.fact kv rfl
    simp only at hb hln fk fc
    rw [hmr] at y1 fk fc
    rw [hmq] at y2 fk fc
    rw [hmw] at y3 fk fc
    have hV1W : W.heap.size ≤ V1.heap.size := HWV1.out.size
    have z1 := (y1.mono hV1W).apartE HR2.out ap
    have z2 := (y2.mono hV1W).apartE HR2.out ap
    have z3 := (y3.mono hV1W).apartE HR2.out ap
    refine ⟨HW2.out.trans (ap.below (by omega) HW2.out.size), .inr ⟨by omega, kv, ⟨.slice ar mr cr, fam, .slice aq mq cq, ts, seq, kind, .slice aw mw cw, row, qual, val⟩, by rw [Int.toNat_natCast]; exact HKV.out, rfl, ⟨z1.rd hb.1 (by omega), z2.rd hb.2.1 (by omega), z3.rd hb.2.2 (by omega)⟩, fc.2 hok, (fk hok.1).1, (fk hok.1).2, ?_, ?_, ?_⟩⟩
    · simp only; rw [hmr]; exact z1
    · simp only; rw [hmq]; exact z2
    · simp only; rw [hmw]; exact z3
  have HFin := Lib.hid (And.intro bx hfin)
  simp only [filled] at HFin
  clear bx ap hfin y1 y2 y3 HI2 HR2 hmr hmq hmw
  go_wp2
  have HH := HFin.out
  clear HFin
  generalize (((((((V2.setCell ⟨W.heap.size + 1, 0, none⟩ (.slice ar mr cr)).setCell ⟨W.heap.size + 1, 1, none⟩ (.int .i64 fam)).setCell ⟨W.heap.size + 1, 2, none⟩ (.slice aq mq cq)).setCell ⟨W.heap.size + 1, 3, none⟩ (.int .i64 ts)).setCell ⟨W.heap.size + 1, 4, none⟩ (.int .i64 seq)).setCell ⟨W.heap.size + 1, 5, none⟩ (.int .i64 kind)).setCell ⟨W.heap.size + 1, 6, none⟩ (.slice aw mw cw)) = WZ at *
  obtain ⟨fb, hfin⟩ := HH
  obtain ⟨t0, t1, t2, t3, t4, t5, t6⟩ := fb.cells7
  simp only at t0 t1 t2 t3 t4 t5 t6
  (try simp only [Exit.inBlock, Exit.then])
  refine bodyPost_ret (v := .tuple #[.agg #[.slice ar mr cr, .int .i64 fam, .slice aq mq cq, .int .i64 ts, .int .i64 seq, .int .i64 kind, .slice aw mw cw], .int .i64 0]) ?hres rfl ?_
  case hres => simp [results, Tryz.results34, go_sem, t0, t1, t2, t3, t4, t5, t6]
  exact hfin
theorem atB_any {W : World} {g r b ne ce np cp B : Nat} {E P : List Nat} {l : List (List Nat × List Nat)} (hL : Blad r l E P) (hk : Lk W B g r l.length b ne ce E P np cp) (i : Int) :
    Calls Tryz.prog 34 #[.pointer (some ⟨g, 0, none⟩), .int .i64 i] W fun x w' => AtP W l i x w' := by
  by_cases h : 0 ≤ i ∧ i < l.length
  · obtain ⟨k, rfl⟩ : ∃ k : Nat, i = (k : Int) := ⟨i.toNat, by omega⟩
    exact at_in hL hk k (by omega)
  · exact at_out (n := 0) hL hk i h
end Go.Proofs.YtchebhafabhabaaGreatDoor

namespace Go.Proofs.YtchebhafabhabaaGreatDoor
open Go.RowKit
set_option linter.unusedVariables false

theorem bytesL_bys {l : List Nat} (h : Bys l) (hl : l.length < 18446744073709551616) : Bys (bytesL l) := Bys.app (uintL_bys _ hl) h
def packL (e : EntD) : List Nat := bytesL (keyL e) ++ bytesL e.val

def EntD.Same (a b : EntD) : Prop := a.fam = b.fam ∧ a.ts = b.ts ∧ a.seq = b.seq ∧ a.kind = b.kind ∧ a.row = b.row ∧ a.qual = b.qual ∧ a.val = b.val
end Go.Proofs.YtchebhafabhabaaGreatDoor

namespace Go.Proofs.YtchebhafabhabaaGreatDoor
open Go.RowKit
set_option linter.unusedVariables false

def Tri (a b c : Int) : Prop := (a ≤ 0 ∧ b ≤ 0 → c ≤ 0) ∧ (0 ≤ a ∧ 0 ≤ b → 0 ≤ c) ∧ (a ≤ 0 ∧ b ≤ 0 ∧ c = 0 → a = 0 ∧ b = 0) ∧ (0 ≤ a ∧ 0 ≤ b ∧ c = 0 → a = 0 ∧ b = 0) ∧ (a = 0 → c = b) ∧ (b = 0 → c = a)
theorem tri_cmpI (x y z : Int) : Tri (cmpI x y) (cmpI y z) (cmpI x z) := by
  unfold Tri cmpI
  repeat' split
  all_goals omega
theorem tri_lex {a b c a' b' c' : Int} (h : Tri a b c) (k : Tri a' b' c') : Tri (if a = 0 then a' else a) (if b = 0 then b' else b) (if c = 0 then c' else c) := by
  unfold Tri at *
  obtain ⟨h1, h2, h3, h4, h5, h6⟩ := h
  by_cases ha : a = 0
  · by_cases hb : b = 0
    · have hc : c = 0 := by rw [h5 ha]; exact hb
      rw [if_pos ha, if_pos hb, if_pos hc]; exact k
    · have hc : c = b := h5 ha
      have hc0 : ¬ c = 0 := by omega
      rw [if_pos ha, if_neg hb, if_neg hc0]
      refine ⟨?_, ?_, ?_, ?_, ?_, ?_⟩ <;> omega
  · by_cases hb : b = 0
    · have hc : c = a := h6 hb
      have hc0 : ¬ c = 0 := by omega
      rw [if_neg ha, if_pos hb, if_neg hc0]
      refine ⟨?_, ?_, ?_, ?_, ?_, ?_⟩ <;> omega
    · rw [if_neg ha, if_neg hb]
      by_cases hc : c = 0
      · rw [if_pos hc]
        have e1 : ¬ (a ≤ 0 ∧ b ≤ 0) := fun e => ha (h3 ⟨e.1, e.2, hc⟩).1
        have e2 : ¬ (0 ≤ a ∧ 0 ≤ b) := fun e => ha (h4 ⟨e.1, e.2, hc⟩).1
        refine ⟨?_, ?_, ?_, ?_, ?_, ?_⟩ <;> omega
      · rw [if_neg hc]; exact ⟨h1, h2, h3, h4, h5, h6⟩
theorem tri_zero : Tri 0 0 0 := by unfold Tri; omega
theorem ordC_cons (x y : Nat) (a b : List Nat) : ordC (x :: a) (y :: b) = if cmpI (x : Int) (y : Int) = 0 then ordC a b else cmpI (x : Int) (y : Int) := by
  have e : ordC (x :: a) (y :: b) = if x < y then -1 else if y < x then 1 else ordC a b := rfl
  rw [e]
  unfold cmpI
  by_cases h1 : x < y
  · simp [h1]
  · by_cases h2 : y < x
    · have : ¬ (x : Int) < y := by omega
      simp [h1, h2]
    · simp [h1, h2]
theorem tri_ordC : ∀ (x y z : List Nat), Tri (ordC x y) (ordC y z) (ordC x z)
  | [], [], [] => by simp only [ordC]; exact tri_zero
  | [], [], _ :: _ => by simp only [ordC]; unfold Tri; omega
  | [], _ :: _, [] => by simp only [ordC]; unfold Tri; omega
  | [], y :: b, z :: c => by
    have h : ordC [] (y :: b) = -1 := rfl
    have h2 : ordC [] (z :: c) = -1 := rfl
    rw [h, h2]; unfold Tri; omega
  | _ :: _, [], [] => by simp only [ordC]; unfold Tri; omega
  | x :: a, [], z :: c => by
    have h : ordC (x :: a) [] = 1 := rfl
    have h2 : ordC [] (z :: c) = -1 := rfl
    rw [h, h2]; unfold Tri; omega
  | x :: a, y :: b, [] => by
    have h : ordC (y :: b) [] = 1 := rfl
    have h2 : ordC (x :: a) [] = 1 := rfl
    rw [h, h2]; unfold Tri; omega
  | x :: a, y :: b, z :: c => by
    rw [ordC_cons, ordC_cons, ordC_cons]
    exact tri_lex (tri_cmpI _ _ _) (tri_ordC a b c)
theorem lex_small {a b : Int} (h : -1 ≤ a ∧ a ≤ 1) (k : -1 ≤ b ∧ b ≤ 1) : -1 ≤ (if a = 0 then b else a) ∧ (if a = 0 then b else a) ≤ 1 := by split <;> assumption
theorem cmpI_small (a b : Int) : -1 ≤ cmpI a b ∧ cmpI a b ≤ 1 := by
  unfold cmpI
  by_cases h : a < b
  · rw [if_pos h]; omega
  · rw [if_neg h]
    by_cases h2 : b < a
    · rw [if_pos h2]; omega
    · rw [if_neg h2]; omega
theorem ordC_small : ∀ (a b : List Nat), -1 ≤ ordC a b ∧ ordC a b ≤ 1
  | [], [] => by simp [ordC]
  | [], _ :: _ => by simp [ordC]
  | _ :: _, [] => by simp [ordC]
  | x :: a, y :: b => by rw [ordC_cons]; exact lex_small (cmpI_small _ _) (ordC_small a b)
end Go.Proofs.YtchebhafabhabaaGreatDoor
