import Derived.Test.YtdkolihakmnpiaaDoorK09
namespace Go.Proofs.YtdkolihakmnpiaaDoor
open Go.RowKit Go.Shelf
set_option linter.unusedVariables false

def sum4 (bs : List Nat) : Nat := rdle (bs.getD (bs.length - 4) 0) (bs.getD (bs.length - 4 + 1) 0) (bs.getD (bs.length - 4 + 2) 0) (bs.getD (bs.length - 4 + 3) 0)
instance (bs : List Nat) : Decidable (spOk bs) := by unfold spOk; infer_instance
noncomputable def opE (bs : List Nat) : Nat := if 131072 < bs.length then 2 else if bs.length < 9 then 51 else if sum4 bs ≠ sumL (bs.take (bs.length - 4)) then 52 else if spOk bs ∧ soundB (rstOf bs) (cntOf bs) (entsOf bs) (placesOf5 bs) = true then 0 else 51
def OpP (w : World) (bs : List Nat) (x : Ending) (w' : World) : Prop :=
  Below w.heap.size w w' ∧ ((opE bs ≠ 0 ∧ x = .returned (.tuple #[.pointer none, .int .i64 ((opE bs : Nat) : Int)])) ∨ (opE bs = 0 ∧ ∃ g b ne ce np cp, x = .returned (.tuple #[.pointer (some ⟨g, 0, none⟩), .int .i64 0]) ∧ Lk w' w.heap.size g (rstOf bs) (cntOf bs) b ne ce (entsOf bs) (placesOf5 bs) np cp))
theorem spOk_ps {bs : List Nat} (h9 : 9 ≤ bs.length) (h : spOk bs) : (placesOf5 bs).length = 4 * nrsOf bs ∧ ∀ k, k < cntOf bs → k / rstOf bs * 4 + 4 ≤ (placesOf5 bs).length := by
  obtain ⟨h1, h2, h3⟩ := h
  have e : (placesOf5 bs).length = 4 * nrsOf bs := by
    unfold placesOf5 plsOf
    simp only [List.length_drop, List.length_take]
    omega
  refine ⟨e, fun k hk => ?_⟩
  rw [e]
  unfold nrsOf
  have : k / rstOf bs + 1 ≤ (cntOf bs + rstOf bs - 1) / rstOf bs := by
    rw [Nat.le_div_iff_mul_le (by omega)]
    have := Nat.div_mul_le_self k (rstOf bs)
    rw [Nat.add_mul]
    omega
  omega
set_option maxRecDepth 100000 in
set_option maxHeartbeats 4000000 in
theorem open_in {w : World} {b off n c : Nat} {bs : List Nat} (hr : Rd w (.slice (some ⟨b, off, none⟩) n c) bs) (ht : Tab w) (h9 : 9 ≤ n) (hl : n ≤ 131072) :
    Calls Tryd.prog 10 #[.slice (some ⟨b, off, none⟩) n c] w fun x w' => OpP w bs x w' := by
  obtain ⟨hn, hle, hm, hl48⟩ := rd_lens hr
  obtain ⟨sm, hsm⟩ : ∃ sm, n - 4 = sm := ⟨_, rfl⟩
  obtain ⟨sa, hsa⟩ : ∃ sa, sum4 bs = sa := ⟨_, rfl⟩
  obtain ⟨sb, hsb⟩ : ∃ sb, sumL (bs.take sm) = sb := ⟨_, rfl⟩
  have rdT : Rd w (.slice (some ⟨b, off + sm, none⟩) (n - sm) (c - sm)) (bs.drop sm) := hr.past sm (by omega) rfl rfl rfl
  have rdH : Rd w (.slice (some ⟨b, off, none⟩) sm c) (bs.take sm) := hr.upto sm (by omega)
  have HRS : Hid (∀ wx, Below w.heap.size w wx → Calls Tryd.prog 28 #[.slice (some ⟨b, off + sm, none⟩) (n - sm) (c - sm)] wx fun e w' => e = .returned (.int .u32 (sa : Int)) ∧ Below wx.heap.size wx w') := fun wx hx => by
    have := readSumB_any (rdT.later hx) (by rw [List.length_drop, ← hn]; omega)
    have e : rdle ((bs.drop sm).getD 0 0) ((bs.drop sm).getD 1 0) ((bs.drop sm).getD 2 0) ((bs.drop sm).getD 3 0) = sa := by
      rw [← hsa]; unfold sum4
      rw [← hn, hsm]
      simp [List.getD_eq_getElem?_getD, List.getElem?_drop]
    rw [e] at this
    exact this
  have HSu : Hid (∀ (wx : World) (q : Nat), Below w.heap.size w wx → wx.cell? ⟨q, 0, none⟩ = some (.slice (some ⟨b, off, none⟩) sm c) → Calls Tryd.prog 29 #[.slice (some ⟨q, 0, none⟩) 1 1] wx fun e w' => e = .returned (.int .u32 (sb : Int)) ∧ w' = wx) := fun wx q hx hc => by
    have := sum_any (rdp_one hc (rdH.later hx)) (ht.later hx)
    rw [← hsb]
    simpa using this
  have HNe : Hid ((!decide (sa = sb)) = !((sa : Int) == (sb : Int))) := by
    unfold Hid
    congr 1
    rw [Bool.eq_iff_iff]
    simp
    omega
  have HSp := Lib.hid (fun (wx : World) (hx : Below w.heap.size w wx) => split_any (hr.later hx) h9 hl)
  have HN := Lib.hid hn
  have HR := Lib.hid hr
  have HSm := Lib.hid hsm
  have HSa := Lib.hid hsa
  have HSb := Lib.hid hsb
  have h4 : sm + 4 = n := by omega
  have h4i : (n : Int) - 4 = (sm : Int) := by omega
  clear rdT rdH hr hn ht hsa hsb hsm
  go_enter Tryd.func10, Tryd.ntmps10
  go_upto_region 6 with fail
  have BD : Below w.heap.size w w.drew := (Below.refl _ _).drew
  refine wp_region_noPanic ?_
  refine wp_region_held_drew (S := fun wx => Below w.heap.size w wx) (by kernel_rfl) BD (fun hHeld => ?_)
  refine wpAnyH_take (i := 0) (oi := { dst := some 16, op := _, type := _, pos := _, after := _, guard := _ }) (v := .slice (some ⟨b, off, none⟩) n c) rfl (by kernel_rfl) (by kernel_rfl) (by kernel_rfl) (fun _ _ _ h => h) (Or.inl ⟨by kernel_rfl, fun wy hy => by (go_simp; first | done | omega)⟩) (by assumption) ?_
  try simp only [Act.put, List.setIfInBounds_toArray, List.set_cons_zero, List.set_cons_succ]
  refine wpAnyH_take (i := 1) (oi := { dst := some 17, op := _, type := _, pos := _, after := _, guard := _ }) (v := .int .i64 (sm : Int)) rfl (by kernel_rfl) (by kernel_rfl) (by kernel_rfl) (fun _ _ _ h => h) (Or.inl ⟨by kernel_rfl, fun wy hy => by (go_simp; first | done | omega)⟩) (by assumption) ?_
  try simp only [Act.put, List.setIfInBounds_toArray, List.set_cons_zero, List.set_cons_succ]
  refine wpAnyH_take (i := 2) (oi := { dst := some 18, op := _, type := _, pos := _, after := _, guard := _ }) (v := .slice (some ⟨b, off + sm, none⟩) (n - sm) (c - sm)) rfl (by kernel_rfl) (by kernel_rfl) (by kernel_rfl) (fun _ _ _ h => h) (Or.inl ⟨by kernel_rfl, fun wy hy => by (go_simp; first | done | omega | (rw [if_pos (by omega), if_neg (by omega)]))⟩) (by assumption) ?_
  try simp only [Act.put, List.setIfInBounds_toArray, List.set_cons_zero, List.set_cons_succ]
  refine wpAnyH_take (i := 4) (oi := { dst := some 20, op := _, type := _, pos := _, after := _, guard := _ }) (v := .slice (some ⟨b, off, none⟩) n c) rfl (by kernel_rfl) (by kernel_rfl) (by kernel_rfl) (fun _ _ _ h => h) (Or.inl ⟨by kernel_rfl, fun wy hy => by (go_simp; first | done | omega)⟩) (by assumption) ?_
  try simp only [Act.put, List.setIfInBounds_toArray, List.set_cons_zero, List.set_cons_succ]
  refine wpAnyH_take (i := 5) (oi := { dst := some 21, op := _, type := _, pos := _, after := _, guard := _ }) (v := .int .i64 (sm : Int)) rfl (by kernel_rfl) (by kernel_rfl) (by kernel_rfl) (fun _ _ _ h => h) (Or.inl ⟨by kernel_rfl, fun wy hy => by (go_simp; first | done | omega)⟩) (by assumption) ?_
  try simp only [Act.put, List.setIfInBounds_toArray, List.set_cons_zero, List.set_cons_succ]
  refine wpAnyH_take (i := 6) (oi := { dst := some 22, op := _, type := _, pos := _, after := _, guard := _ }) (v := .slice (some ⟨b, off, none⟩) sm c) rfl (by kernel_rfl) (by kernel_rfl) (by kernel_rfl) (fun _ _ _ h => h) (Or.inl ⟨by kernel_rfl, fun wy hy => by (go_simp; first | done | omega | (rw [if_pos (by omega), if_neg (by omega)]))⟩) (by assumption) ?_
  try simp only [Act.put, List.setIfInBounds_toArray, List.set_cons_zero, List.set_cons_succ]
  refine wpAnyH_ready (rs := [3, 7]) (by kernel_rfl) (by simp) ?_
  refine AllReadyH.cons (o := { dst := some 19, op := _, type := _, pos := _, after := _, guard := _ }) rfl (fun KK hK => ?_) (AllReadyH.cons (o := { dst := some 23, op := _, type := _, pos := _, after := _, guard := _ }) rfl (fun KK hK => ?_) AllReadyH.nil)
  · go_simp
    go_at_call 28
    refine (HRS.out _ BD).mono ?_
    rintro e1 X1 ⟨rfl, hb1⟩
    have bX1 : Below w.heap.size w X1 := BD.trans (hb1.mono BD.size)
    clear hb1 BD
    go_wp2_with fail
    refine hK.out _ _ bX1 (fun hHeld => ?_)
    clear hK
    try simp only [Act.put, List.setIfInBounds_toArray, List.set_cons_zero, List.set_cons_succ]
    refine wpAnyH_ready (rs := [7]) (by kernel_rfl) (by simp) ?_
    refine AllReadyH.cons (o := { dst := some 23, op := _, type := _, pos := _, after := _, guard := _ }) rfl (fun KK hK => ?_) AllReadyH.nil
    go_simp
    have bX3 : Below w.heap.size w (X1.alloc (.cells #[.slice (some ⟨b, off, none⟩) sm c] 24)) := bX1.alloc bX1.size _
    have hc3 : (X1.alloc (.cells #[.slice (some ⟨b, off, none⟩) sm c] 24)).cell? ⟨X1.heap.size, 0, none⟩ = some (.slice (some ⟨b, off, none⟩) sm c) := by simp
    refine hK.out _ _ bX3 (fun hHeld => ?_)
    clear hK
    generalize (X1.alloc (.cells #[.slice (some ⟨b, off, none⟩) sm c] 24)) = X3 at *
    try simp only [Act.put, List.setIfInBounds_toArray, List.set_cons_zero, List.set_cons_succ]
    refine wpAnyH_ready (rs := [8]) (by kernel_rfl) (by simp) ?_
    refine AllReadyH.cons (o := { dst := some 24, op := _, type := _, pos := _, after := _, guard := _ }) rfl (fun KK hK => ?_) AllReadyH.nil
    go_simp
    go_at_call 29
    refine (HSu.out _ _ bX3 hc3).mono ?_
    rintro e1 X4 ⟨rfl, rfl⟩
    go_wp2_with fail
    refine hK.out _ _ bX3 (fun hHeld => ?_)
    clear hK
    try simp only [Act.put, List.setIfInBounds_toArray, List.set_cons_zero, List.set_cons_succ]
    refine wpAnyH_take (i := 9) (oi := { dst := some 25, op := _, type := _, pos := _, after := _, guard := _ }) (v := .bool (!decide (sa = sb))) rfl (by kernel_rfl) (by kernel_rfl) (by kernel_rfl) (fun _ _ _ h => h) (Or.inl ⟨by kernel_rfl, fun wy hy => by (go_simp; first | done | exact HNe.out.symm | exact congrArg (fun z => Result.ok (Next.value (Value.bool z)) _) HNe.out.symm)⟩) (by assumption) ?_
    try simp only [Act.put, List.setIfInBounds_toArray, List.set_cons_zero, List.set_cons_succ]
    refine wpAnyH_done (by kernel_rfl) (NoPanic.normal ?_) _
    clear hHeld HSu HRS
    have HB4 := Lib.hid bX3
    clear bX3 hc3
    go_simp
    go_step
    have hne : ¬ 131072 < bs.length := by rw [← HN.out]; omega
    have hnl : ¬ bs.length < 9 := by rw [← HN.out]; omega
    have he4 : sumL (bs.take (bs.length - 4)) = sb := by rw [← HN.out, HSm.out]; exact HSb.out
    by_cases hss : sa = sb
    · have HE : Hid (opE bs = if spOk bs ∧ soundB (rstOf bs) (cntOf bs) (entsOf bs) (placesOf5 bs) = true then 0 else 51) := by
        unfold Hid opE
        rw [if_neg hne, if_neg hnl, if_neg (by rw [HSa.out, he4]; exact fun k => k hss)]
      clear hne hnl he4
      rw [decide_eq_true hss]
      have HSp4 := Lib.hid (HSp.out _ HB4.out)
      clear HSp
      go_wp2_with fail
      refine Calls.mono HSp4.out ?_
      rintro z X5 ⟨b5, h | h⟩
      · obtain ⟨hno, rfl⟩ := h
        have HEnd : Hid (OpP w bs (.returned (.tuple #[.pointer none, .int .i64 51])) X5) := by
          have e : opE bs = 51 := by rw [HE.out, if_neg (fun k => hno k.1)]
          exact ⟨HB4.out.trans (b5.mono HB4.out.size), .inl ⟨by rw [e]; decide, by rw [e]; rfl⟩⟩
        clear hno b5 HSp4
        go_wp2
        go_ret2
        exact HEnd.out
      · obtain ⟨hsp, g, bo, ne, ce, np, cp, rfl, lk⟩ := h
        have hps := spOk_ps (by rw [← HN.out]; exact h9) hsp
        have hcn : cntOf bs < 4294967296 := rdle_lt _ _ _ _ (HR.out.1.get _) (HR.out.1.get _) (HR.out.1.get _) (HR.out.1.get _)
        have hel : (entsOf bs).length ≤ 131072 := by unfold entsOf; rw [List.length_take, ← HN.out]; omega
        have hpl : (placesOf5 bs).length ≤ 131072 := by unfold placesOf5; rw [List.length_drop, List.length_take, ← HN.out]; omega
        have hbl : bo < X5.heap.size := by
          have hp1 : 0 < (placesOf5 bs).length := by have := hps.2 0 (by have := hsp.1; omega); omega
          have := rd_cell lk.pls 0 (by rw [(rd_lens lk.pls).1]; exact hp1)
          exact World.block_lt_of_cell? X5 _ this.1
        have HSd := Lib.hid (sound_any lk.box lk.ents lk.pls hsp.2.1 hcn hps.2 hpl hel hbl hbl)
        have HLk := Lib.hid lk
        have HB5 := Lib.hid (HB4.out.trans (b5.mono HB4.out.size))
        have HSz : Hid (w.heap.size ≤ _) := HB4.out.size
        have HSpk := Lib.hid hsp
        obtain ⟨sd, hsd⟩ : ∃ sd, soundB (rstOf bs) (cntOf bs) (entsOf bs) (placesOf5 bs) = sd := ⟨_, rfl⟩
        rw [hsd] at HSd HE
        clear lk b5 hps hcn hel hpl hbl hsp HSp4 hsd
        go_wp2_with fail
        refine Calls.mono HSd.out ?_
        rintro z X6 ⟨rfl, b6⟩
        cases sd with
        | false =>
          have HEnd : Hid (OpP w bs (.returned (.tuple #[.pointer none, .int .i64 51])) X6) := by
            have e : opE bs = 51 := by rw [HE.out, if_neg (fun k => by cases k.2)]
            exact ⟨HB5.out.trans (b6.mono HB5.out.size), .inl ⟨by rw [e]; decide, by rw [e]; rfl⟩⟩
          clear b6 HSd
          go_wp2
          go_ret2
          exact HEnd.out
        | true =>
          have HEnd : Hid (OpP w bs (.returned (.tuple #[.pointer (some ⟨g, 0, none⟩), .int .i64 0])) X6) := by
            have e : opE bs = 0 := by rw [HE.out, if_pos ⟨HSpk.out, rfl⟩]
            have l := HLk.out
            exact ⟨HB5.out.trans (b6.mono HB5.out.size), .inr ⟨e, g, bo, ne, ce, np, cp, rfl, l.box.later b6, l.ents.later b6, l.pls.later b6, Nat.le_trans HSz.out l.bg, Nat.le_trans HSz.out l.bb, l.ne⟩⟩
          clear b6 HSd
          go_wp2
          go_ret2
          exact HEnd.out
    · have HEnd : Hid (∀ X, Below w.heap.size w X → OpP w bs (.returned (.tuple #[.pointer none, .int .i64 52])) X) := by
        have e : opE bs = 52 := by
          unfold opE
          rw [if_neg hne, if_neg hnl, if_pos (by rw [HSa.out, he4]; exact hss)]
        exact fun X hX => ⟨hX, .inl ⟨by rw [e]; decide, by rw [e]; rfl⟩⟩
      clear hne hnl he4
      rw [decide_eq_false hss]
      go_wp2
      go_ret2
      exact HEnd.out _ HB4.out
  · go_simp
    have bX1 : Below w.heap.size w (w.alloc (.cells #[.slice (some ⟨b, off, none⟩) sm c] 24)).drew := ((Below.refl _ _).alloc (Nat.le_refl _) _).drew
    have hc1 : (w.alloc (.cells #[.slice (some ⟨b, off, none⟩) sm c] 24)).drew.cell? ⟨w.heap.size, 0, none⟩ = some (.slice (some ⟨b, off, none⟩) sm c) := by simp
    refine hK.out _ _ bX1 (fun hHeld => ?_)
    clear hK BD
    generalize (w.alloc (.cells #[.slice (some ⟨b, off, none⟩) sm c] 24)).drew = X1 at *
    try simp only [Act.put, List.setIfInBounds_toArray, List.set_cons_zero, List.set_cons_succ]
    refine wpAnyH_ready (rs := [3]) (by kernel_rfl) (by simp) ?_
    refine AllReadyH.cons (o := { dst := some 19, op := _, type := _, pos := _, after := _, guard := _ }) rfl (fun KK hK => ?_) AllReadyH.nil
    go_simp
    go_at_call 28
    refine (HRS.out _ bX1).mono ?_
    rintro e1 X3 ⟨rfl, hb1⟩
    have bX3 : Below w.heap.size w X3 := bX1.trans (hb1.mono bX1.size)
    have hc3 : X3.cell? ⟨w.heap.size, 0, none⟩ = some (.slice (some ⟨b, off, none⟩) sm c) := by
      rw [hb1.cell (p := ⟨w.heap.size, 0, none⟩) (World.block_lt_of_cell? X1 _ hc1)]; exact hc1
    clear hb1 hc1 bX1
    go_wp2_with fail
    refine hK.out _ _ bX3 (fun hHeld => ?_)
    clear hK
    try simp only [Act.put, List.setIfInBounds_toArray, List.set_cons_zero, List.set_cons_succ]
    refine wpAnyH_ready (rs := [8]) (by kernel_rfl) (by simp) ?_
    refine AllReadyH.cons (o := { dst := some 24, op := _, type := _, pos := _, after := _, guard := _ }) rfl (fun KK hK => ?_) AllReadyH.nil
    go_simp
    go_at_call 29
    refine (HSu.out _ _ bX3 hc3).mono ?_
    rintro e1 X4 ⟨rfl, rfl⟩
    go_wp2_with fail
    refine hK.out _ _ bX3 (fun hHeld => ?_)
    clear hK
    try simp only [Act.put, List.setIfInBounds_toArray, List.set_cons_zero, List.set_cons_succ]
    refine wpAnyH_take (i := 9) (oi := { dst := some 25, op := _, type := _, pos := _, after := _, guard := _ }) (v := .bool (!decide (sa = sb))) rfl (by kernel_rfl) (by kernel_rfl) (by kernel_rfl) (fun _ _ _ h => h) (Or.inl ⟨by kernel_rfl, fun wy hy => by (go_simp; first | done | exact HNe.out.symm | exact congrArg (fun z => Result.ok (Next.value (Value.bool z)) _) HNe.out.symm)⟩) (by assumption) ?_
    try simp only [Act.put, List.setIfInBounds_toArray, List.set_cons_zero, List.set_cons_succ]
    refine wpAnyH_done (by kernel_rfl) (NoPanic.normal ?_) _
    clear hHeld HSu HRS
    have HB4 := Lib.hid bX3
    clear bX3 hc3
    go_simp
    go_step
    have hne : ¬ 131072 < bs.length := by rw [← HN.out]; omega
    have hnl : ¬ bs.length < 9 := by rw [← HN.out]; omega
    have he4 : sumL (bs.take (bs.length - 4)) = sb := by rw [← HN.out, HSm.out]; exact HSb.out
    by_cases hss : sa = sb
    · have HE : Hid (opE bs = if spOk bs ∧ soundB (rstOf bs) (cntOf bs) (entsOf bs) (placesOf5 bs) = true then 0 else 51) := by
        unfold Hid opE
        rw [if_neg hne, if_neg hnl, if_neg (by rw [HSa.out, he4]; exact fun k => k hss)]
      clear hne hnl he4
      rw [decide_eq_true hss]
      have HSp4 := Lib.hid (HSp.out _ HB4.out)
      clear HSp
      go_wp2_with fail
      refine Calls.mono HSp4.out ?_
      rintro z X5 ⟨b5, h | h⟩
      · obtain ⟨hno, rfl⟩ := h
        have HEnd : Hid (OpP w bs (.returned (.tuple #[.pointer none, .int .i64 51])) X5) := by
          have e : opE bs = 51 := by rw [HE.out, if_neg (fun k => hno k.1)]
          exact ⟨HB4.out.trans (b5.mono HB4.out.size), .inl ⟨by rw [e]; decide, by rw [e]; rfl⟩⟩
        clear hno b5 HSp4
        go_wp2
        go_ret2
        exact HEnd.out
      · obtain ⟨hsp, g, bo, ne, ce, np, cp, rfl, lk⟩ := h
        have hps := spOk_ps (by rw [← HN.out]; exact h9) hsp
        have hcn : cntOf bs < 4294967296 := rdle_lt _ _ _ _ (HR.out.1.get _) (HR.out.1.get _) (HR.out.1.get _) (HR.out.1.get _)
        have hel : (entsOf bs).length ≤ 131072 := by unfold entsOf; rw [List.length_take, ← HN.out]; omega
        have hpl : (placesOf5 bs).length ≤ 131072 := by unfold placesOf5; rw [List.length_drop, List.length_take, ← HN.out]; omega
        have hbl : bo < X5.heap.size := by
          have hp1 : 0 < (placesOf5 bs).length := by have := hps.2 0 (by have := hsp.1; omega); omega
          have := rd_cell lk.pls 0 (by rw [(rd_lens lk.pls).1]; exact hp1)
          exact World.block_lt_of_cell? X5 _ this.1
        have HSd := Lib.hid (sound_any lk.box lk.ents lk.pls hsp.2.1 hcn hps.2 hpl hel hbl hbl)
        have HLk := Lib.hid lk
        have HB5 := Lib.hid (HB4.out.trans (b5.mono HB4.out.size))
        have HSz : Hid (w.heap.size ≤ _) := HB4.out.size
        have HSpk := Lib.hid hsp
        obtain ⟨sd, hsd⟩ : ∃ sd, soundB (rstOf bs) (cntOf bs) (entsOf bs) (placesOf5 bs) = sd := ⟨_, rfl⟩
        rw [hsd] at HSd HE
        clear lk b5 hps hcn hel hpl hbl hsp HSp4 hsd
        go_wp2_with fail
        refine Calls.mono HSd.out ?_
        rintro z X6 ⟨rfl, b6⟩
        cases sd with
        | false =>
          have HEnd : Hid (OpP w bs (.returned (.tuple #[.pointer none, .int .i64 51])) X6) := by
            have e : opE bs = 51 := by rw [HE.out, if_neg (fun k => by cases k.2)]
            exact ⟨HB5.out.trans (b6.mono HB5.out.size), .inl ⟨by rw [e]; decide, by rw [e]; rfl⟩⟩
          clear b6 HSd
          go_wp2
          go_ret2
          exact HEnd.out
        | true =>
          have HEnd : Hid (OpP w bs (.returned (.tuple #[.pointer (some ⟨g, 0, none⟩), .int .i64 0])) X6) := by
            have e : opE bs = 0 := by rw [HE.out, if_pos ⟨HSpk.out, rfl⟩]
            have l := HLk.out
            exact ⟨HB5.out.trans (b6.mono HB5.out.size), .inr ⟨e, g, bo, ne, ce, np, cp, rfl, l.box.later b6, l.ents.later b6, l.pls.later b6, Nat.le_trans HSz.out l.bg, Nat.le_trans HSz.out l.bb, l.ne⟩⟩
          clear b6 HSd
          go_wp2
          go_ret2
          exact HEnd.out
    · have HEnd : Hid (∀ X, Below w.heap.size w X → OpP w bs (.returned (.tuple #[.pointer none, .int .i64 52])) X) := by
        have e : opE bs = 52 := by
          unfold opE
          rw [if_neg hne, if_neg hnl, if_pos (by rw [HSa.out, he4]; exact hss)]
        exact fun X hX => ⟨hX, .inl ⟨by rw [e]; decide, by rw [e]; rfl⟩⟩
      clear hne hnl he4
      rw [decide_eq_false hss]
      go_wp2
      go_ret2
      exact HEnd.out _ HB4.out
theorem opE_long {bs : List Nat} (h : 131072 < bs.length) : opE bs = 2 := by unfold opE; rw [if_pos h]
theorem opE_short {bs : List Nat} (h : bs.length < 9) : opE bs = 51 := by unfold opE; rw [if_neg (by omega), if_pos h]
set_option maxRecDepth 100000 in
theorem open_any {w : World} {a : Option Addr} {n c : Nat} {bs : List Nat} (hr : Rd w (.slice a n c) bs) (ht : Tab w) :
    Calls Tryd.prog 10 #[.slice a n c] w fun x w' => OpP w bs x w' := by
  obtain ⟨hn, hle, hm, hl48⟩ := rd_lens hr
  by_cases h1 : 131072 < n
  · have h1i : (131072 : Int) < (n : Int) := by omega
    have HE := Lib.hid (opE_long (bs := bs) (by omega))
    clear hr ht hn
    go_enter Tryd.func10, Tryd.ntmps10
    go_wp2
    go_ret2
    exact ⟨Below.refl _ _, .inl ⟨by rw [HE.out]; decide, by rw [HE.out]; rfl⟩⟩
  by_cases h2 : n < 9
  · have h1i : ¬ (131072 : Int) < (n : Int) := by omega
    have h2i : (n : Int) < 9 := by omega
    have HE := Lib.hid (opE_short (bs := bs) (by omega))
    clear hr ht hn
    go_enter Tryd.func10, Tryd.ntmps10
    go_wp2
    go_ret2
    exact ⟨Below.refl _ _, .inl ⟨by rw [HE.out]; decide, by rw [HE.out]; rfl⟩⟩
  rcases rd_some hr with ⟨_, h, _⟩ | ⟨b, off, rfl⟩
  · omega
  · exact open_in hr ht (by omega) (by omega)
end Go.Proofs.YtdkolihakmnpiaaDoor

namespace Go.Proofs.YtdkolihakmnpiaaDoor
open Go.RowKit
set_option linter.unusedVariables false

def T (s : Nat) : Nat := (s / 2) ^^^ (if s % 2 = 1 then 2197175160 else 0)
def Tn : Nat → Nat → Nat
  | 0, s => s
  | n + 1, s => Tn n (T s)

theorem xor_div2 (a b : Nat) : (a ^^^ b) / 2 = (a / 2) ^^^ (b / 2) := by
  have := Nat.shiftRight_xor_distrib (a := a) (b := b) (i := 1)
  simpa [Nat.shiftRight_eq_div_pow] using this
theorem xor_mod2 (a b : Nat) : (a ^^^ b) % 2 = (a % 2) ^^^ (b % 2) := by
  have h := Nat.xor_mod_two_pow (a := a) (b := b) (n := 1)
  simpa using h
theorem T_xor (a b : Nat) : T (a ^^^ b) = T a ^^^ T b := by
  unfold T
  rw [xor_div2, xor_mod2]
  have ha : a % 2 = 0 ∨ a % 2 = 1 := by omega
  have hb : b % 2 = 0 ∨ b % 2 = 1 := by omega
  rcases ha with ha | ha <;> rcases hb with hb | hb <;> simp [ha, hb]
  · rw [Nat.xor_assoc]
  · rw [Nat.xor_assoc, Nat.xor_assoc, Nat.xor_comm (b / 2)]
  · rw [Nat.xor_comm (b / 2) 2197175160, ← Nat.xor_assoc, Nat.xor_assoc (a / 2), Nat.xor_self, Nat.xor_zero]
theorem Tn_xor (n a b : Nat) : Tn n (a ^^^ b) = Tn n a ^^^ Tn n b := by
  induction n generalizing a b with
  | zero => rfl
  | succ n ih => simp only [Tn]; rw [T_xor, ih]
theorem Tn_add (m n s : Nat) : Tn (m + n) s = Tn m (Tn n s) := by
  induction n generalizing s with
  | zero => rfl
  | succ n ih => rw [Nat.add_succ]; simp only [Tn]; exact ih (T s)
theorem T_lt (s : Nat) (h : s < 4294967296) : T s < 4294967296 := by
  unfold T
  have h1 : s / 2 < 2 ^ 32 := by omega
  exact Nat.xor_lt_two_pow h1 (by split <;> omega)
theorem Tn_lt (n s : Nat) (h : s < 4294967296) : Tn n s < 4294967296 := by
  induction n generalizing s with
  | zero => exact h
  | succ n ih => exact ih _ (T_lt s h)
theorem xor_zero {a b : Nat} (h : a ^^^ b = 0) : a = b := by
  have h2 : (a ^^^ b) ^^^ b = 0 ^^^ b := by rw [h]
  rwa [Nat.xor_assoc, Nat.xor_self, Nat.xor_zero, Nat.zero_xor] at h2
theorem T_zero : T 0 = 0 := rfl
theorem Tn_zero (n : Nat) : Tn n 0 = 0 := by
  induction n with
  | zero => rfl
  | succ n ih => simp only [Tn, T_zero]; exact ih
theorem T_ne (s : Nat) (h : s < 4294967296) (h0 : s ≠ 0) : T s ≠ 0 := by
  unfold T
  by_cases ho : s % 2 = 1
  · rw [if_pos ho]
    intro hz
    have e := xor_zero hz
    omega
  · rw [if_neg ho, Nat.xor_zero]
    omega
theorem Tn_ne (n s : Nat) (h : s < 4294967296) (h0 : s ≠ 0) : Tn n s ≠ 0 := by
  induction n generalizing s with
  | zero => exact h0
  | succ n ih => exact ih _ (T_lt s h) (T_ne s h h0)
theorem Tn_inj (n a b : Nat) (ha : a < 4294967296) (hb : b < 4294967296) (h : Tn n a = Tn n b) : a = b := by
  by_cases hab : a = b
  · exact hab
  · have hx : a ^^^ b ≠ 0 := fun e => hab (xor_zero e)
    have := Tn_ne n (a ^^^ b) (Nat.xor_lt_two_pow (n := 32) ha hb) hx
    rw [Tn_xor, h, Nat.xor_self] at this
    exact absurd rfl this

theorem T_two (q : Nat) : T (2 * q) = q := by unfold T; rw [if_neg (by omega), Nat.xor_zero]; omega
theorem half_eq (r : Nat) : half r = Tn 4 r := by
  have hr : r = (16 * (r / 16)) ^^^ (r % 16) := by
    have h1 := nat_join 4 (16 * (r / 16)) (r % 16) (by omega) (by omega)
    have h2 : (16 * (r / 16)) ^^^ (r % 16) = (16 * (r / 16)) ||| (r % 16) := by
      apply Nat.eq_of_testBit_eq
      intro i
      rw [Nat.testBit_xor, Nat.testBit_or]
      by_cases hi : i < 4
      · have : (16 * (r / 16)).testBit i = false := by
          rw [show 16 * (r / 16) = 2 ^ 4 * (r / 16) by omega, Nat.testBit_two_pow_mul]
          simp; omega
        simp [this]
      · have : (r % 16).testBit i = false := Nat.testBit_lt_two_pow (Nat.lt_of_lt_of_le (show r % 16 < 2 ^ 4 by omega) (Nat.pow_le_pow_right (by omega) (by omega)))
        simp [this]
    rw [h2, h1]; omega
  have h16 : Tn 4 (16 * (r / 16)) = r / 16 := by
    simp only [Tn]
    rw [show 16 * (r / 16) = 2 * (2 * (2 * (2 * (r / 16)))) by omega, T_two, T_two, T_two, T_two]
  have ht : ∀ i, i < 16 → Tn 4 i = tab.getD i 0 := by decide
  conv => rhs; rw [hr, Tn_xor, h16, ht (r % 16) (by omega)]
  rfl
theorem crcB_eq (r c : Nat) : crcB r c = Tn 8 (r ^^^ c) := by
  unfold crcB
  rw [half_eq, half_eq, ← Tn_add]
theorem crcB_xor (r s c d : Nat) : crcB (r ^^^ s) (c ^^^ d) = crcB r c ^^^ crcB s d := by
  rw [crcB_eq, crcB_eq, crcB_eq, ← Tn_xor]
  congr 1
  rw [Nat.xor_assoc, ← Nat.xor_assoc s c d, Nat.xor_comm s c, Nat.xor_assoc c s d, ← Nat.xor_assoc]
def xorL (a b : List Nat) : List Nat := List.zipWith (· ^^^ ·) a b
theorem crcL_xor : ∀ (a b : List Nat) (r s : Nat), a.length = b.length → crcL (r ^^^ s) (xorL a b) = crcL r a ^^^ crcL s b
  | [], [], r, s, _ => rfl
  | x :: a, y :: b, r, s, h => by
    show crcL (crcB (r ^^^ s) (x ^^^ y)) (xorL a b) = crcL (crcB r x) a ^^^ crcL (crcB s y) b
    rw [crcB_xor]
    exact crcL_xor a b _ _ (by simpa using h)

def errF (e : List Nat) : Nat := crcL 0 e
theorem errF_append (a b : List Nat) : errF (a ++ b) = crcL (errF a) b := by simp [errF, crcL, List.foldl_append]

theorem xor_eq_add (i q y : Nat) (hy : y < 2 ^ i) : (2 ^ i * q) ^^^ y = 2 ^ i * q + y := by
  have h1 := nat_join i (2 ^ i * q) y (by simp) hy
  have h2 : (2 ^ i * q) ^^^ y = (2 ^ i * q) ||| y := by
    apply Nat.eq_of_testBit_eq
    intro j
    rw [Nat.testBit_xor, Nat.testBit_or]
    by_cases hj : j < i
    · have : (2 ^ i * q).testBit j = false := by rw [Nat.testBit_two_pow_mul]; simp; omega
      simp [this]
    · have : y.testBit j = false := Nat.testBit_lt_two_pow (Nat.lt_of_lt_of_le hy (Nat.pow_le_pow_right (by omega) (by omega)))
      simp [this]
  rw [h2, h1]
theorem rdle_xor (a b c d : Nat) (ha : a < 256) (hb : b < 256) (hc : c < 256) : rdle a b c d = (16777216 * d) ^^^ ((65536 * c) ^^^ ((256 * b) ^^^ a)) := by
  have h1 := xor_eq_add 8 b a (by omega)
  have h2 := xor_eq_add 16 c (256 * b + a) (by omega)
  have h3 := xor_eq_add 24 d (65536 * c + (256 * b + a)) (by omega)
  simp only [show (2 : Nat) ^ 8 = 256 from rfl, show (2 : Nat) ^ 16 = 65536 from rfl, show (2 : Nat) ^ 24 = 16777216 from rfl] at h1 h2 h3
  rw [h1, h2, h3]
  unfold rdle; omega
theorem Tn_mul (i q : Nat) : Tn i (2 ^ i * q) = q := by
  induction i generalizing q with
  | zero => simp [Tn]
  | succ i ih =>
    simp only [Tn]
    rw [show 2 ^ (i + 1) * q = 2 * (2 ^ i * q) by rw [Nat.pow_succ]; rw [Nat.mul_comm (2 ^ i) 2, Nat.mul_assoc], T_two]
    exact ih q
theorem Tn_byte (n r c : Nat) : Tn 8 (Tn n r ^^^ c) = Tn (8 + n) (r ^^^ (2 ^ n * c)) := by
  rw [Tn_add, Tn_xor n, Tn_mul]
theorem crcL_four (r a b c d : Nat) (ha : a < 256) (hb : b < 256) (hc : c < 256) : crcL r [a, b, c, d] = Tn 32 (r ^^^ rdle a b c d) := by
  show crcB (crcB (crcB (crcB r a) b) c) d = _
  rw [crcB_eq, crcB_eq, crcB_eq, crcB_eq, Tn_byte 8 (r ^^^ a) b]
  have e2 := Tn_byte 16 (r ^^^ a ^^^ 2 ^ 8 * b) c
  have e3 := Tn_byte 24 (r ^^^ a ^^^ 2 ^ 8 * b ^^^ 2 ^ 16 * c) d
  rw [show (8 + 8 : Nat) = 16 from rfl, e2, show (8 + 16 : Nat) = 24 from rfl, e3, rdle_xor a b c d ha hb hc]
  show Tn 32 _ = Tn 32 _
  congr 1
  simp only [show (2 : Nat) ^ 8 = 256 from rfl, show (2 : Nat) ^ 16 = 65536 from rfl, show (2 : Nat) ^ 24 = 16777216 from rfl]
  rw [Nat.xor_assoc, Nat.xor_assoc, Nat.xor_assoc]
  congr 1
  rw [Nat.xor_comm (16777216 * d), Nat.xor_comm (65536 * c) (256 * b ^^^ a), Nat.xor_comm (256 * b) a]
  simp only [Nat.xor_assoc]
theorem not_xor (x y : Nat) (hx : x < 4294967296) (hy : y < 4294967296) : 4294967295 - (x ^^^ y) = (4294967295 - x) ^^^ y := by
  have nt : ∀ r, r < 4294967296 → 4294967295 ^^^ r = 4294967295 - r := by
    intro r h
    apply Nat.eq_of_testBit_eq
    intro i
    rw [Nat.testBit_xor]
    have h1 : Nat.testBit 4294967295 i = decide (i < 32) := Nat.testBit_two_pow_sub_one 32 i
    have h2 : Nat.testBit (4294967295 - r) i = (decide (i < 32) && !Nat.testBit r i) := by
      have := Nat.testBit_two_pow_sub_succ (x := r) (n := 32) h i
      rw [show (4294967295 - r) = 2 ^ 32 - (r + 1) by omega]
      exact this
    rw [h1, h2]
    by_cases hi : i < 32
    · simp [hi]
    · have h3 : Nat.testBit r i = false := Nat.testBit_lt_two_pow (Nat.lt_of_lt_of_le h (Nat.pow_le_pow_right (n := 2) (i := 32) (j := i) (by omega) (by omega)))
      simp [hi, h3]
  rw [← nt _ (Nat.xor_lt_two_pow (n := 32) hx hy), ← nt x hx, Nat.xor_assoc]

theorem detect (data e1 : List Nat) (hd : ∀ x ∈ data, x < 256) (he : ∀ x ∈ e1, x < 256) (hl : data.length = e1.length) (s0 s1 s2 s3 f0 f1 f2 f3 : Nat)
    (hs0 : s0 < 256) (hs1 : s1 < 256) (hs2 : s2 < 256) (hf0 : f0 < 256) (hf1 : f1 < 256) (hf2 : f2 < 256) (hs3 : s3 < 256) (hf3 : f3 < 256)
    (hsum : rdle s0 s1 s2 s3 = sumL data) (hne : errF (e1 ++ [f0, f1, f2, f3]) ≠ 0) :
    rdle (s0 ^^^ f0) (s1 ^^^ f1) (s2 ^^^ f2) (s3 ^^^ f3) ≠ sumL (xorL data e1) := by
  intro heq
  apply hne
  have lt : ∀ a b, a < 256 → b < 256 → a ^^^ b < 256 := fun a b ha hb => Nat.xor_lt_two_pow (n := 8) ha hb
  have m : ∀ k a b : Nat, 2 ^ k * (a ^^^ b) = (2 ^ k * a) ^^^ (2 ^ k * b) := by
    intro k a b
    apply Nat.eq_of_testBit_eq
    intro j
    rw [Nat.testBit_xor, Nat.testBit_two_pow_mul, Nat.testBit_two_pow_mul, Nat.testBit_two_pow_mul, Nat.testBit_xor]
    by_cases h : k ≤ j <;> simp [h]
  have hx : rdle (s0 ^^^ f0) (s1 ^^^ f1) (s2 ^^^ f2) (s3 ^^^ f3) = rdle s0 s1 s2 s3 ^^^ rdle f0 f1 f2 f3 := by
    rw [rdle_xor _ _ _ _ (lt _ _ hs0 hf0) (lt _ _ hs1 hf1) (lt _ _ hs2 hf2), rdle_xor _ _ _ _ hs0 hs1 hs2, rdle_xor _ _ _ _ hf0 hf1 hf2]
    have m8 := m 8 s1 f1
    have m16 := m 16 s2 f2
    have m24 := m 24 s3 f3
    simp only [show (2 : Nat) ^ 8 = 256 from rfl, show (2 : Nat) ^ 16 = 65536 from rfl, show (2 : Nat) ^ 24 = 16777216 from rfl] at m8 m16 m24
    rw [m8, m16, m24]
    generalize 16777216 * s3 = a3; generalize 16777216 * f3 = b3; generalize 65536 * s2 = a2; generalize 65536 * f2 = b2; generalize 256 * s1 = a1; generalize 256 * f1 = b1
    have sw : ∀ p q r s : Nat, (p ^^^ q) ^^^ (r ^^^ s) = (p ^^^ r) ^^^ (q ^^^ s) := by
      intro p q r s
      rw [Nat.xor_assoc, ← Nat.xor_assoc q r s, Nat.xor_comm q r, Nat.xor_assoc r q s, ← Nat.xor_assoc]
    rw [sw a1 b1 s0 f0, sw a2 b2, sw a3 b3]
  have h1 : sumL (xorL data e1) = sumL data ^^^ errF e1 := by
    unfold sumL errF
    have := crcL_xor data e1 4294967295 0 hl
    rw [Nat.xor_zero] at this
    rw [this]
    exact not_xor _ _ (crcL_lt data hd _ (by omega)) (crcL_lt e1 he _ (by omega))
  rw [hx, h1, hsum] at heq
  have h2 : rdle f0 f1 f2 f3 = errF e1 := by
    have h3 : sumL data ^^^ (sumL data ^^^ rdle f0 f1 f2 f3) = sumL data ^^^ (sumL data ^^^ errF e1) := by rw [heq]
    rwa [← Nat.xor_assoc, ← Nat.xor_assoc, Nat.xor_self, Nat.zero_xor, Nat.zero_xor] at h3
  rw [errF_append, crcL_four _ _ _ _ _ hf0 hf1 hf2, h2, Nat.xor_self, Tn_zero]

theorem crcL_state (t : List Nat) (s d : Nat) : crcL (s ^^^ d) t = crcL s t ^^^ Tn (8 * t.length) d := by
  induction t generalizing s d with
  | nil => rfl
  | cons c t ih =>
    show crcL (crcB (s ^^^ d) c) t = crcL (crcB s c) t ^^^ _
    have e : crcB (s ^^^ d) c = crcB s c ^^^ Tn 8 d := by
      rw [crcB_eq, crcB_eq, ← Tn_xor]
      congr 1
      rw [Nat.xor_assoc, Nat.xor_comm d c, ← Nat.xor_assoc]
    rw [e, ih, ← Tn_add]
    rw [show 8 * (c :: t).length = 8 * t.length + 8 by simp; omega]
theorem crcL_set (e : List Nat) (r i x : Nat) (h : i < e.length) : crcL r (e.set i (e.getD i 0 ^^^ x)) = crcL r e ^^^ Tn (8 * (e.length - i)) x := by
  induction e generalizing r i with
  | nil => simp at h
  | cons c t ih =>
    cases i with
    | zero =>
      show crcL (crcB r (c ^^^ x)) t = crcL (crcB r c) t ^^^ _
      have e1 : crcB r (c ^^^ x) = crcB r c ^^^ Tn 8 x := by rw [crcB_eq, crcB_eq, ← Tn_xor, Nat.xor_assoc]
      rw [e1, crcL_state, ← Tn_add]
      rw [show 8 * ((c :: t).length - 0) = 8 * t.length + 8 by simp; omega]
    | succ i =>
      show crcL (crcB r c) (t.set i (t.getD i 0 ^^^ x)) = crcL (crcB r c) t ^^^ _
      rw [ih (crcB r c) i (by simpa using h)]
      congr 2
      simp
def flip (bs : List Nat) (k : Nat) : List Nat := bs.set (k / 8) (bs.getD (k / 8) 0 ^^^ 2 ^ (k % 8))
theorem flip_len (bs : List Nat) (k : Nat) : (flip bs k).length = bs.length := by simp [flip]
theorem errF_flip (e : List Nat) (k : Nat) (h : k < 8 * e.length) : errF (flip e k) = errF e ^^^ Tn (8 * e.length - k) 1 := by
  unfold errF flip
  rw [crcL_set _ _ _ _ (by omega)]
  congr 1
  rw [show 8 * (e.length - k / 8) = (8 * e.length - k) + k % 8 by omega, Tn_add]
  congr 1
  have := Tn_mul (k % 8) 1
  rwa [Nat.mul_one] at this

def par : Nat → Nat → Bool
  | 0, _ => false
  | k + 1, s => (s % 2 == 1) ^^ par k (s / 2)
theorem par_xor (k a b : Nat) : par k (a ^^^ b) = (par k a ^^ par k b) := by
  induction k generalizing a b with
  | zero => rfl
  | succ k ih =>
    simp only [par]
    rw [xor_div2, ih, xor_mod2]
    have ha : a % 2 = 0 ∨ a % 2 = 1 := by omega
    have hb : b % 2 = 0 ∨ b % 2 = 1 := by omega
    rcases ha with ha | ha <;> rcases hb with hb | hb <;> simp [ha, hb]
theorem par_more (k x : Nat) (h : x < 2 ^ k) : par (k + 1) x = par k x := by
  induction k generalizing x with
  | zero => have : x = 0 := by simpa using h
            subst this; rfl
  | succ k ih =>
    show ((x % 2 == 1) ^^ par (k + 1) (x / 2)) = ((x % 2 == 1) ^^ par k (x / 2))
    rw [ih (x / 2) (by rw [Nat.pow_succ] at h; omega)]
theorem par_T (s : Nat) (h : s < 4294967296) : par 32 (T s) = par 32 s := by
  have h1 : par 32 s = ((s % 2 == 1) ^^ par 31 (s / 2)) := rfl
  have h2 : par 32 (s / 2) = par 31 (s / 2) := par_more 31 (s / 2) (by omega)
  unfold T
  rw [par_xor, h1, h2]
  have h3 : par 32 2197175160 = true := by decide
  have h4 : par 32 0 = false := by decide
  have ho : s % 2 = 0 ∨ s % 2 = 1 := by omega
  rcases ho with ho | ho
  · simp [ho, h4]
  · simp [ho, h3]
theorem par_Tn (n s : Nat) (h : s < 4294967296) : par 32 (Tn n s) = par 32 s := by
  induction n generalizing s with
  | zero => rfl
  | succ n ih => simp only [Tn]; rw [ih _ (T_lt s h), par_T s h]
theorem par_one (n : Nat) : par 32 (Tn n 1) = true := by rw [par_Tn n 1 (by omega)]; decide

def mapp : List Nat → Nat → Nat
  | [], _ => 0
  | a :: A, s => (if s % 2 = 1 then a else 0) ^^^ mapp A (s / 2)
theorem mapp_rep (n : Nat) : ∀ (k j : Nat) (A : List Nat), A.length = k → (∀ i, i < k → A.getD i 0 = Tn n (2 ^ (j + i))) → ∀ s, s < 2 ^ k → mapp A s = Tn n (2 ^ j * s) := by
  intro k
  induction k with
  | zero =>
    intro j A hA _ s hs
    have : s = 0 := by simpa using hs
    subst this
    have : A = [] := List.eq_nil_of_length_eq_zero hA
    subst this
    simp [mapp, Tn_zero]
  | succ k ih =>
    intro j A hA hrep s hs
    cases A with
    | nil => simp at hA
    | cons a A =>
      have ha : a = Tn n (2 ^ j) := by have := hrep 0 (by omega); simpa using this
      have hrec := ih (j + 1) A (by simpa using hA) (fun i hi => by
        have := hrep (i + 1) (by omega)
        rw [show j + 1 + i = j + (i + 1) by omega]
        simpa using this) (s / 2) (by rw [Nat.pow_succ] at hs; omega)
      show (if s % 2 = 1 then a else 0) ^^^ mapp A (s / 2) = _
      rw [hrec]
      have hs2 : s = 2 * (s / 2) + s % 2 := by omega
      have e : 2 ^ j * s = (2 ^ (j + 1) * (s / 2)) ^^^ (2 ^ j * (s % 2)) := by
        have h1 := xor_eq_add (j + 1) (s / 2) (2 ^ j * (s % 2)) (by
          rw [Nat.pow_succ]
          have : s % 2 ≤ 1 := by omega
          have := Nat.mul_le_mul_left (2 ^ j) this
          have := Nat.two_pow_pos j
          omega)
        rw [h1]
        conv => lhs; rw [hs2]
        rw [Nat.mul_add, Nat.pow_succ, ← Nat.mul_assoc]
      rw [e, Tn_xor, Nat.xor_comm]
      congr 1
      by_cases ho : s % 2 = 1
      · rw [if_pos ho, ho, Nat.mul_one, ha]
      · rw [if_neg ho, show s % 2 = 0 by omega, Nat.mul_zero, Tn_zero]
def Rep (A : List Nat) (n : Nat) : Prop := A.length = 32 ∧ ∀ i, i < 32 → A.getD i 0 = Tn n (2 ^ i)
theorem Rep.at_ {A : List Nat} {n : Nat} (h : Rep A n) (s : Nat) (hs : s < 4294967296) : mapp A s = Tn n s := by
  have := mapp_rep n 32 0 A h.1 (fun i hi => by rw [Nat.zero_add]; exact h.2 i hi) s hs
  simpa using this
def msq (A : List Nat) : List Nat := A.map (mapp A)
theorem Rep.sqr {A : List Nat} {n : Nat} (h : Rep A n) : Rep (msq A) (2 * n) := by
  refine ⟨by simp [msq, h.1], fun i hi => ?_⟩
  have h1 : (msq A).getD i 0 = mapp A (A.getD i 0) := by
    have hi2 : i < A.length := by rw [h.1]; exact hi
    simp [msq, List.getD, List.getElem?_eq_getElem hi2]
  have h2 : 2 ^ i < 4294967296 := Nat.lt_of_le_of_lt (Nat.pow_le_pow_right (by omega) (show i ≤ 31 by omega)) (by decide)
  rw [h1, h.2 i hi, h.at_ _ (Tn_lt n _ h2), ← Tn_add, Nat.two_mul]
def powv : Nat → List Nat → Nat → Nat
  | 0, _, v => v
  | k + 1, A, v => powv k (msq A) (mapp A v)
theorem powv_eq (k : Nat) : ∀ (A : List Nat) (n v : Nat), Rep A n → v < 4294967296 → powv k A v = Tn (n * (2 ^ k - 1)) v := by
  induction k with
  | zero => intro A n v _ _; simp [powv, Tn]
  | succ k ih =>
    intro A n v h hv
    simp only [powv]
    rw [ih (msq A) (2 * n) _ h.sqr (by rw [h.at_ v hv]; exact Tn_lt n v hv), h.at_ v hv, ← Tn_add]
    congr 1
    have hp := Nat.two_pow_pos k
    have e : 2 ^ (k + 1) - 1 = 2 * (2 ^ k - 1) + 1 := by rw [Nat.pow_succ]; omega
    rw [e, Nat.mul_add, Nat.mul_one, ← Nat.mul_assoc, Nat.mul_comm n 2]
def A0 : List Nat := (List.range 32).map fun i => T (2 ^ i)
theorem A0_rep : Rep A0 1 := by
  refine ⟨by simp [A0], fun i hi => ?_⟩
  simp [A0, List.getElem?_range hi, Tn]
theorem back : Tn 2147483647 1 = 1 := by
  have h := powv_eq 31 A0 1 1 A0_rep (by omega)
  have h2 : powv 31 A0 1 = 1 := by decide +kernel
  rw [h2] at h
  have e : 1 * (2 ^ 31 - 1) = 2147483647 := by decide
  rw [e] at h
  exact h.symm
def chk : Nat → Nat → Bool
  | 0, lo => decide (lo < 2) || decide (2147483647 % lo ≠ 0)
  | k + 1, lo => chk k lo && chk k (lo + 2 ^ k)
theorem chk_ok (k : Nat) : ∀ lo, chk k lo = true → ∀ p, lo ≤ p → p < lo + 2 ^ k → p < 2 ∨ 2147483647 % p ≠ 0 := by
  induction k with
  | zero =>
    intro lo h p h1 h2
    have : p = lo := by simp at h2; omega
    subst this
    simpa [chk] using h
  | succ k ih =>
    intro lo h p h1 h2
    simp only [chk, Bool.and_eq_true] at h
    rw [Nat.pow_succ] at h2
    by_cases hp : p < lo + 2 ^ k
    · exact ih lo h.1 p h1 hp
    · exact ih (lo + 2 ^ k) h.2 p (by omega) (by omega)
theorem no_div (p : Nat) (h1 : 2 ≤ p) (h2 : p < 65536) : 2147483647 % p ≠ 0 := by
  have := chk_ok 16 0 (by decide +kernel) p (Nat.zero_le _) (by simpa using h2)
  rcases this with h | h
  · omega
  · exact h
theorem ord_mod (a b : Nat) (ha : Tn a 1 = 1) (hb : Tn b 1 = 1) (hpos : 0 < b) : Tn (a % b) 1 = 1 := by
  have h1 : ∀ q, Tn (b * q) 1 = 1 := by
    intro q
    induction q with
    | zero => rfl
    | succ q ih => rw [Nat.mul_succ, Tn_add, hb, ih]
  have h2 : Tn (a % b + b * (a / b)) 1 = 1 := by rw [Nat.mod_add_div]; exact ha
  rwa [Tn_add, h1] at h2
theorem ord_gcd (a : Nat) : ∀ b, Tn a 1 = 1 → Tn b 1 = 1 → Tn (Nat.gcd a b) 1 = 1 := by
  induction a using Nat.strongRecOn with
  | _ a ih =>
    intro b ha hb
    by_cases h0 : a = 0
    · subst h0; rw [Nat.gcd_zero_left]; exact hb
    · rw [Nat.gcd_rec]
      exact ih (b % a) (Nat.mod_lt _ (by omega)) a (ord_mod b a hb ha (by omega)) ha
theorem ord_big (d : Nat) (h1 : 0 < d) (h2 : d < 2147483647) : Tn d 1 ≠ 1 := by
  intro h
  have hg := ord_gcd d 2147483647 h back
  have hd1 : Nat.gcd d 2147483647 ∣ 2147483647 := Nat.gcd_dvd_right _ _
  have hd2 : Nat.gcd d 2147483647 ∣ d := Nat.gcd_dvd_left _ _
  have hle := Nat.le_of_dvd h1 hd2
  generalize Nat.gcd d 2147483647 = g at *
  obtain ⟨q, hq⟩ := hd1
  have hg0 : g ≠ 0 := by intro e; rw [e] at hq; simp at hq
  have hq1 : 2 ≤ q := by
    by_cases hq2 : 2 ≤ q
    · exact hq2
    · have : q = 0 ∨ q = 1 := by omega
      rcases this with e | e
      · rw [e] at hq; simp at hq
      · rw [e, Nat.mul_one] at hq; omega
  by_cases hg1 : g = 1
  · rw [hg1] at hg
    exact absurd hg (by decide)
  · by_cases hsm : g < 65536
    · exact no_div g (by omega) hsm (Nat.mod_eq_zero_of_dvd ⟨q, hq⟩)
    · have hq3 : q < 65536 := by
        by_cases hq4 : q < 65536
        · exact hq4
        · have := Nat.mul_le_mul (show 65536 ≤ g by omega) (show 65536 ≤ q by omega)
          omega
      exact no_div q hq1 hq3 (Nat.mod_eq_zero_of_dvd ⟨g, by rw [Nat.mul_comm]; exact hq⟩)

end Go.Proofs.YtdkolihakmnpiaaDoor

namespace Go.Proofs.YtdkolihakmnpiaaDoor
open Go.RowKit
set_option linter.unusedVariables false

theorem xorL_len (a b : List Nat) (h : a.length = b.length) : (xorL a b).length = a.length := by simp [xorL, h]
theorem xorL_zero (a : List Nat) : xorL a (List.replicate a.length 0) = a := by
  induction a with
  | nil => rfl
  | cons x a ih => show (x ^^^ 0) :: xorL a (List.replicate a.length 0) = _; rw [ih, Nat.xor_zero]
theorem xorL_get (a b : List Nat) (h : a.length = b.length) (i : Nat) (hi : i < a.length) : (xorL a b).getD i 0 = a.getD i 0 ^^^ b.getD i 0 := by
  have hb : i < b.length := by omega
  simp [xorL, List.getD, List.getElem?_zipWith, List.getElem?_eq_getElem hi, List.getElem?_eq_getElem hb]
theorem xorL_take (a b : List Nat) (n : Nat) : (xorL a b).take n = xorL (a.take n) (b.take n) := by simp [xorL, List.take_zipWith]
theorem flip_xor : ∀ (a e : List Nat) (k : Nat), a.length = e.length → flip (xorL a e) k = xorL a (flip e k) := by
  intro a e k h
  by_cases hk : k / 8 < a.length
  · apply List.ext_getElem?
    intro i
    unfold flip
    by_cases hi : i < a.length
    · by_cases hik : k / 8 = i
      · subst hik
        have h2 : k / 8 < e.length := by omega
        have h3 : k / 8 < (xorL a e).length := by rw [xorL_len a e h]; exact hk
        rw [List.getElem?_set_self h3, xorL_get a e h _ hk]
        simp [xorL, List.getElem?_zipWith, List.getElem?_eq_getElem hi, h2, Nat.xor_assoc]
      · rw [List.getElem?_set_ne hik]
        simp [xorL, List.getElem?_zipWith, List.getElem?_set_ne hik]
    · have h1 : ((xorL a e).set (k / 8) ((xorL a e).getD (k / 8) 0 ^^^ 2 ^ (k % 8)))[i]? = none := List.getElem?_eq_none (by rw [List.length_set, xorL_len a e h]; omega)
      have h2 : (xorL a (e.set (k / 8) (e.getD (k / 8) 0 ^^^ 2 ^ (k % 8))))[i]? = none := List.getElem?_eq_none (by rw [xorL_len _ _ (by simp [h])]; omega)
      rw [h1, h2]
  · have h1 : flip (xorL a e) k = xorL a e := by unfold flip; rw [List.set_eq_of_length_le (by rw [xorL_len a e h]; omega)]
    have h2 : flip e k = e := by unfold flip; rw [List.set_eq_of_length_le (by omega)]
    rw [h1, h2]
def flips (bs : List Nat) (l : List Nat) : List Nat := l.foldl flip bs
theorem flips_len (l : List Nat) : ∀ bs, (flips bs l).length = bs.length := by
  induction l with
  | nil => intro bs; rfl
  | cons k l ih => intro bs; show (flips (flip bs k) l).length = _; rw [ih, flip_len]
theorem flips_xor (l : List Nat) : ∀ (a e : List Nat), a.length = e.length → flips (xorL a e) l = xorL a (flips e l) := by
  induction l with
  | nil => intro a e _; rfl
  | cons k l ih =>
    intro a e h
    show flips (flip (xorL a e) k) l = xorL a (flips (flip e k) l)
    rw [flip_xor a e k h, ih a (flip e k) (by rw [flip_len]; exact h)]
theorem flips_eq (a l : List Nat) : flips a l = xorL a (flips (List.replicate a.length 0) l) := by
  conv => lhs; rw [← xorL_zero a]
  exact flips_xor l a _ (by simp)
theorem flip_bys (bs : List Nat) (k : Nat) (h : Bys bs) : Bys (flip bs k) := by
  intro x hx
  unfold flip at hx
  rcases List.mem_or_eq_of_mem_set hx with h1 | h1
  · exact h x h1
  · rw [h1]
    have h2 : 2 ^ (k % 8) < 2 ^ 8 := Nat.pow_lt_pow_right (by omega) (by omega)
    exact Nat.xor_lt_two_pow (n := 8) (h.get _) h2
theorem flips_bys (l : List Nat) : ∀ bs, Bys bs → Bys (flips bs l) := by
  induction l with
  | nil => intro bs h; exact h
  | cons k l ih => intro bs h; exact ih _ (flip_bys bs k h)
theorem zeros_bys (n : Nat) : Bys (List.replicate n 0) := by intro x hx; rw [List.mem_replicate] at hx; omega
theorem errF_zeros (n : Nat) : errF (List.replicate n 0) = 0 := by
  unfold errF
  induction n with
  | zero => rfl
  | succ n ih => show crcL (crcB 0 0) (List.replicate n 0) = 0; rw [show crcB 0 0 = 0 by decide]; exact ih
theorem flip_flip (bs : List Nat) (k : Nat) : flip (flip bs k) k = bs := by
  by_cases hk : k / 8 < bs.length
  · unfold flip
    apply List.ext_getElem?
    intro i
    by_cases hik : k / 8 = i
    · subst hik
      simp [hk, Nat.xor_assoc]
    · simp [List.getElem?_set_ne hik]
  · have h2 : flip bs k = bs := by unfold flip; rw [List.set_eq_of_length_le (by omega)]
    rw [h2, h2]
theorem crcThree (N : Nat) (hN : 8 * N < 2147483647) (l : List Nat) (hl : l.length ≤ 3) (hk : ∀ k ∈ l, k < 8 * N) (h : errF (flips (List.replicate N 0) l) = 0) : flips (List.replicate N 0) l = List.replicate N 0 := by
  have step : ∀ (e : List Nat) (k : Nat), e.length = N → k < 8 * N → errF (flip e k) = errF e ^^^ Tn (8 * N - k) 1 := by
    intro e k he hk; have := errF_flip e k (by rw [he]; exact hk); rwa [he] at this
  match l, hl with
  | [], _ => rfl
  | [a], _ =>
    exfalso
    have e1 := step (List.replicate N 0) a (by simp) (hk a (by simp))
    rw [errF_zeros, Nat.zero_xor] at e1
    change errF (flip (List.replicate N 0) a) = 0 at h
    rw [e1] at h
    exact Tn_ne _ 1 (by omega) (by omega) h
  | [a, b], _ =>
    have ha := hk a (by simp)
    have hb := hk b (by simp)
    have e1 := step (List.replicate N 0) a (by simp) ha
    rw [errF_zeros, Nat.zero_xor] at e1
    have e2 := step (flip (List.replicate N 0) a) b (by rw [flip_len]; simp) hb
    change errF (flip (flip (List.replicate N 0) a) b) = 0 at h
    rw [e2, e1] at h
    have h2 := xor_zero h
    have hab : a = b := by
      have key : ∀ x y : Nat, x < y → y < 8 * N → Tn (8 * N - x) 1 = Tn (8 * N - y) 1 → False := by
        intro x y hxy hy he
        rw [show 8 * N - x = (8 * N - y) + (y - x) by omega, Tn_add] at he
        exact ord_big (y - x) (by omega) (by omega) (Tn_inj _ _ _ (Tn_lt _ 1 (by omega)) (by omega) he)
      rcases Nat.lt_trichotomy a b with h3 | h3 | h3
      · exact (key a b h3 hb h2).elim
      · exact h3
      · exact (key b a h3 ha h2.symm).elim
    subst hab
    exact flip_flip _ _
  | [a, b, c], _ =>
    exfalso
    have e1 := step (List.replicate N 0) a (by simp) (hk a (by simp))
    rw [errF_zeros, Nat.zero_xor] at e1
    have e2 := step (flip (List.replicate N 0) a) b (by rw [flip_len]; simp) (hk b (by simp))
    have e3 := step (flip (flip (List.replicate N 0) a) b) c (by rw [flip_len, flip_len]; simp) (hk c (by simp))
    change errF (flip (flip (flip (List.replicate N 0) a) b) c) = 0 at h
    rw [e3, e2, e1] at h
    have hp := congrArg (par 32) h
    rw [par_xor, par_xor, par_one, par_one, par_one] at hp
    exact absurd hp (by decide)

theorem le4_sum (s : Nat) (h : s < 4294967296) : rdle (s % 256) (s / 256 % 256) (s / 65536 % 256) (s / 16777216) = s := by unfold rdle; omega
theorem detectX (data e : List Nat) (hd : Bys data) (he : Bys e) (hl : e.length = data.length + 4) (hne : errF e ≠ 0) (X : List Nat) (hX : X = xorL (data ++ le4 (sumL data)) e) :
    rdle (X.getD data.length 0) (X.getD (data.length + 1) 0) (X.getD (data.length + 2) 0) (X.getD (data.length + 3) 0) ≠ sumL (X.take data.length) := by
  have hs := sumL_lt data
  have hlen : (data ++ le4 (sumL data)).length = e.length := by rw [hl]; simp [le4]
  have g : ∀ i, i < 4 → X.getD (data.length + i) 0 = (le4 (sumL data)).getD i 0 ^^^ e.getD (data.length + i) 0 := by
    intro i hi
    rw [hX, xorL_get _ _ hlen _ (by simp [le4]; omega)]
    congr 1
    simp [List.getD, List.getElem?_append_right]
  have t : X.take data.length = xorL data (e.take data.length) := by
    rw [hX, xorL_take]
    congr 1
    simp
  have e4 : e = e.take data.length ++ [e.getD data.length 0, e.getD (data.length + 1) 0, e.getD (data.length + 2) 0, e.getD (data.length + 3) 0] := by
    apply List.ext_getElem?
    intro i
    by_cases hi : i < data.length
    · rw [List.getElem?_append_left (by simp; omega), List.getElem?_take_of_lt hi]
    · rw [List.getElem?_append_right (by simp; omega)]
      have hm : (e.take data.length).length = data.length := by simp; omega
      rw [hm]
      by_cases hi4 : i < data.length + 4
      · have hie : i < e.length := by omega
        have hc : i - data.length = 0 ∨ i - data.length = 1 ∨ i - data.length = 2 ∨ i - data.length = 3 := by omega
        rcases hc with h | h | h | h
        · have : i = data.length := by omega
          subst this
          simp [List.getElem?_eq_getElem hie]
        · have : i = data.length + 1 := by omega
          subst this
          simp [List.getElem?_eq_getElem hie]
        · have : i = data.length + 2 := by omega
          subst this
          simp [List.getElem?_eq_getElem hie]
        · have : i = data.length + 3 := by omega
          subst this
          simp [List.getElem?_eq_getElem hie]
      · rw [List.getElem?_eq_none (by omega), List.getElem?_eq_none (by simp; omega)]
  have g0 := g 0 (by omega)
  have g1 := g 1 (by omega)
  have g2 := g 2 (by omega)
  have g3 := g 3 (by omega)
  rw [Nat.add_zero] at g0
  rw [g0, g1, g2, g3, t]
  refine detect data (e.take data.length) hd (fun x hx => he x (List.mem_of_mem_take hx)) (by simp; omega) _ _ _ _ _ _ _ _ ?_ ?_ ?_ (he.get _) (he.get _) (he.get _) ?_ (he.get _) ?_ ?_
  · simp [le4]; omega
  · simp [le4]; omega
  · simp [le4]; omega
  · simp [le4]; omega
  · simp [le4]; exact le4_sum _ hs
  · rw [Nat.add_zero]
    rw [← e4]
    exact hne

end Go.Proofs.YtdkolihakmnpiaaDoor

namespace Go.Proofs.YtdkolihakmnpiaaDoor
open Go.RowKit Go.Shelf
set_option linter.unusedVariables false

theorem getD_mid (A B C : List Nat) (k : Nat) (hk : k < B.length) : (A ++ (B ++ C)).getD (A.length + k) 0 = B.getD k 0 := by
  rw [List.getD_eq_getElem?_getD, List.getD_eq_getElem?_getD, List.getElem?_append_right (by omega), Nat.add_sub_cancel_left, List.getElem?_append_left hk]
theorem blockL_len (E P : List Nat) (n r : Nat) : (blockL E P n r).length = E.length + P.length + 9 := by
  simp [blockL, bodyL, be4, le4]; omega
theorem block_cnt (E P : List Nat) (n r : Nat) (hn : n < 4294967296) : cntOf (blockL E P n r) = n ∧ rstOf (blockL E P n r) = r := by
  have e : blockL E P n r = (E ++ P) ++ (be4 n ++ ([r] ++ le4 (sumL (bodyL E P n r)))) := by simp [blockL, bodyL]
  have e2 : blockL E P n r = (E ++ P ++ be4 n) ++ ([r] ++ le4 (sumL (bodyL E P n r))) := by simp [blockL, bodyL]
  have f : (blockL E P n r).length - 9 = (E ++ P).length := by rw [blockL_len]; simp
  have g : ∀ k, k < 4 → (blockL E P n r).getD ((blockL E P n r).length - 9 + k) 0 = (be4 n).getD k 0 := fun k hk => by
    rw [f, e]
    exact getD_mid _ _ _ k (by simpa [be4] using hk)
  refine ⟨?_, ?_⟩
  · unfold cntOf
    have g0 := g 0 (by omega)
    rw [Nat.add_zero] at g0
    rw [g0, g 1 (by omega), g 2 (by omega), g 3 (by omega)]
    simp only [be4, List.getD_cons_zero, List.getD_cons_succ]
    unfold rdle
    omega
  · unfold rstOf
    have h4 : (blockL E P n r).length - 9 + 4 = (E ++ P ++ be4 n).length + 0 := by rw [f]; simp [be4]; omega
    rw [h4, e2]
    exact getD_mid _ _ _ 0 (by simp)
theorem block_sum (E P : List Nat) (n r : Nat) : (blockL E P n r).take ((blockL E P n r).length - 4) = bodyL E P n r ∧ sum4 (blockL E P n r) = sumL (bodyL E P n r) := by
  have f : (blockL E P n r).length - 4 = (bodyL E P n r).length := by simp [blockL, le4]
  have g : ∀ k, k < 4 → (blockL E P n r).getD ((blockL E P n r).length - 4 + k) 0 = (le4 (sumL (bodyL E P n r))).getD k 0 := fun k hk => by
    rw [f]
    have := getD_mid (bodyL E P n r) (le4 (sumL (bodyL E P n r))) [] k (by simpa [le4] using hk)
    rw [List.append_nil] at this
    exact this
  refine ⟨?_, ?_⟩
  · rw [f]; unfold blockL; rw [List.take_left]
  · unfold sum4
    have g0 := g 0 (by omega)
    rw [Nat.add_zero] at g0
    rw [g0, g 1 (by omega), g 2 (by omega), g 3 (by omega)]
    have := le4_sum (sumL (bodyL E P n r)) (sumL_lt _)
    simpa only [le4, List.getD_cons_zero, List.getD_cons_succ] using this
structure Blad (r : Nat) (l : List (List Nat × List Nat)) (E P : List Nat) : Prop where
  r1 : 1 ≤ r
  r16 : r ≤ 16
  es : E = (foldB r Bs.zero l).es
  ps : P = (foldB r Bs.zero l).ps
  ok : ∀ kv ∈ l, okIt kv.1 kv.2
  up : Up [] l
  some_ : l ≠ []
  size : E.length + P.length + 9 ≤ 131072
theorem foldB_few (r : Nat) : ∀ (l : List (List Nat × List Nat)) (s : Bs), s.n ≤ s.es.length → (foldB r s l).n ≤ (foldB r s l).es.length
  | [], s, h => h
  | kv :: t, s, h => by
    simp only [foldB]
    refine foldB_few r t _ ?_
    simp only [addB, esOf, List.length_append, recL]
    have := (uintL_len (shOf r s kv.1)).1
    omega
theorem Blad.few {r : Nat} {l : List (List Nat × List Nat)} {E P : List Nat} (h : Blad r l E P) : l.length ≤ E.length := by
  have := foldB_few r l Bs.zero (Nat.le_refl _)
  rw [foldB_n, ← h.es] at this
  simpa [Bs.zero] using this
theorem zero_ps {r : Nat} (hr : 1 ≤ r) : Bs.zero.ps.length = (Bs.zero.n + r - 1) / r * 4 := by
  have := (ceil_now (n := 0) hr).1 (by simp)
  simp only [Bs.zero]
  rw [this]
  simp
theorem Blad.psl {r : Nat} {l : List (List Nat × List Nat)} {E P : List Nat} (h : Blad r l E P) : P.length = (l.length + r - 1) / r * 4 := by
  have := ps_fold h.r1 l Bs.zero (zero_ps h.r1)
  rw [foldB_n, ← h.ps] at this
  simpa [Bs.zero] using this
theorem Blad.opens {r : Nat} {l : List (List Nat × List Nat)} {E P : List Nat} (h : Blad r l E P) : opE (blockL E P l.length r) = 0 ∧ cntOf (blockL E P l.length r) = l.length ∧ rstOf (blockL E P l.length r) = r ∧ entsOf (blockL E P l.length r) = E ∧ placesOf5 (blockL E P l.length r) = P := by
  have hs := h.size
  have hf := h.few
  have hp := h.psl
  have hl := blockL_len E P l.length r
  obtain ⟨c1, c2⟩ := block_cnt E P l.length r (by omega)
  obtain ⟨s1, s2⟩ := block_sum E P l.length r
  have hn : nrsOf (blockL E P l.length r) = (l.length + r - 1) / r := by unfold nrsOf; rw [c1, c2]
  have hpl : plsOf (blockL E P l.length r) = E.length := by unfold plsOf; rw [hn, hl]; omega
  have e : blockL E P l.length r = E ++ (P ++ (be4 l.length ++ ([r] ++ le4 (sumL (bodyL E P l.length r))))) := by simp [blockL, bodyL]
  have e3 : blockL E P l.length r = (E ++ P) ++ (be4 l.length ++ ([r] ++ le4 (sumL (bodyL E P l.length r)))) := by simp [blockL, bodyL]
  have hE : entsOf (blockL E P l.length r) = E := by unfold entsOf; rw [hpl, e, List.take_left]
  have hP : placesOf5 (blockL E P l.length r) = P := by
    unfold placesOf5
    rw [hpl, hl, e3, show E.length + P.length + 9 - 9 = (E ++ P).length by simp, List.take_left, List.drop_left]
  refine ⟨?_, c1, c2, hE, hP⟩
  have hl0 : l.length ≠ 0 := fun k => h.some_ (List.eq_nil_of_length_eq_zero k)
  unfold opE
  rw [if_neg (by omega), if_neg (by omega), if_neg (by rw [s1, s2]; exact fun k => k rfl), if_pos]
  refine ⟨⟨by rw [c1]; exact hl0, by rw [c2]; exact ⟨h.r1, h.r16⟩, by rw [hn, hl]; omega⟩, ?_⟩
  rw [c1, c2, hE, hP, h.es, h.ps]
  exact sound_lay h.r1 l h.ok h.up (by rw [← h.es]; omega)
theorem laid_of {r : Nat} {l : List EntD} (h1 : 1 ≤ r) (h16 : r ≤ 16) (h : (bldS r Bs.zero l).1 = 0) (hl : l ≠ []) : Blad r (kvL l) (bldS r Bs.zero l).2.es (bldS r Bs.zero l).2.ps := by
  obtain ⟨f1, f2, f3, f4⟩ := bldS_fold r l Bs.zero h
  rw [f1]
  refine ⟨h1, h16, rfl, rfl, ?_, f3, ?_, ?_⟩
  · intro kv hkv
    obtain ⟨e, he, rfl⟩ := List.mem_map.1 hkv
    exact ok_of_check (f2 e he)
  · intro k
    exact hl (List.map_eq_nil_iff.1 k)
  · rcases f4 with rfl | f4
    · exact absurd rfl hl
    · exact f4
theorem kvL_len (l : List EntD) : (kvL l).length = l.length := by simp [kvL]
end Go.Proofs.YtdkolihakmnpiaaDoor
