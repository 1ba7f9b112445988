import Derived.Test.YtchebhafabhabaaGreatDoorK11
namespace Go.Proofs.YtchebhafabhabaaGreatDoor
open Go.RowKit Go.Shelf
set_option linter.unusedVariables false

def sum4 (bs : List Nat) : Nat := rdle (bs.getD (bs.length - 4) 0) (bs.getD (bs.length - 4 + 1) 0) (bs.getD (bs.length - 4 + 2) 0) (bs.getD (bs.length - 4 + 3) 0)
instance (bs : List Nat) : Decidable (spOk bs) := by unfold spOk; infer_instance
noncomputable def opE (bs : List Nat) : Nat := if 131072 < bs.length then 2 else if bs.length < 9 then 51 else if sum4 bs ≠ sumL (bs.take (bs.length - 4)) then 52 else if spOk bs ∧ soundB (rstOf bs) (cntOf bs) (entsOf bs) (placesOf5 bs) = true then 0 else 51
def OpP (w : World) (bs : List Nat) (x : Ending) (w' : World) : Prop :=
 Below w.heap.size w w' ∧ ((opE bs ≠ 0 ∧ x = .returned (.tuple #[.pointer none, .int .i64 ((opE bs : Nat) : Int)])) ∨ (opE bs = 0 ∧ ∃ g b ne ce np cp, x = .returned (.tuple #[.pointer (some ⟨g, 0, none⟩), .int .i64 0]) ∧ Lk w' w.heap.size g (rstOf bs) (cntOf bs) b ne ce (entsOf bs) (placesOf5 bs) np cp))
theorem spOk_ps {bs : List Nat} (h9 : 9 ≤ bs.length) (h : spOk bs) : (placesOf5 bs).length = 4 * nrsOf bs ∧ ∀ k, k < cntOf bs → k / rstOf bs * 4 + 4 ≤ (placesOf5 bs).length := by
 obtain ⟨h1, h2, h3⟩ := h
 have e : (placesOf5 bs).length = 4 * nrsOf bs := by
  unfold placesOf5 plsOf
  simp only [List.length_drop, List.length_take]
  omega
 refine ⟨e, fun k hk => ?_⟩
 rw [e]
 unfold nrsOf
 have : k / rstOf bs + 1 ≤ (cntOf bs + rstOf bs - 1) / rstOf bs := by
  rw [Nat.le_div_iff_mul_le (by omega)]
  have := Nat.div_mul_le_self k (rstOf bs)
  rw [Nat.add_mul]
  omega
 omega
set_option maxRecDepth 100000 in
set_option maxHeartbeats 4000000 in
theorem open_in {w : World} {b off n c : Nat} {bs : List Nat} (hr : Rd w (.slice (some ⟨b, off, none⟩) n c) bs) (ht : Tab w) (h9 : 9 ≤ n) (hl : n ≤ 131072) :
  Calls Tryz.prog 25 #[.slice (some ⟨b, off, none⟩) n c] w fun x w' => OpP w bs x w' := by
 obtain ⟨hn, hle, hm, hl48⟩ := rd_lens hr
 obtain ⟨sm, hsm⟩ : ∃ sm, n - 4 = sm := ⟨_, rfl⟩
 obtain ⟨sa, hsa⟩ : ∃ sa, sum4 bs = sa := ⟨_, rfl⟩
 obtain ⟨sb, hsb⟩ : ∃ sb, sumL (bs.take sm) = sb := ⟨_, rfl⟩
 have rdT : Rd w (.slice (some ⟨b, off + sm, none⟩) (n - sm) (c - sm)) (bs.drop sm) := hr.past sm (by omega) rfl rfl rfl
 have rdH : Rd w (.slice (some ⟨b, off, none⟩) sm c) (bs.take sm) := hr.upto sm (by omega)
 have HRS : Hid (∀ wx, Below w.heap.size w wx → Calls Tryz.prog 61 #[.slice (some ⟨b, off + sm, none⟩) (n - sm) (c - sm)] wx fun e w' => e = .returned (.int .u32 (sa : Int)) ∧ Below wx.heap.size wx w') := fun wx hx => by
  have := readSumB_any (rdT.later hx) (by rw [List.length_drop, ← hn]; omega)
  have e : rdle ((bs.drop sm).getD 0 0) ((bs.drop sm).getD 1 0) ((bs.drop sm).getD 2 0) ((bs.drop sm).getD 3 0) = sa := by
   rw [← hsa]; unfold sum4
   rw [← hn, hsm]
   simp [List.getD_eq_getElem?_getD, List.getElem?_drop]
  rw [e] at this
  exact this
 have HSu : Hid (∀ (wx : World) (q : Nat), Below w.heap.size w wx → wx.cell? ⟨q, 0, none⟩ = some (.slice (some ⟨b, off, none⟩) sm c) → Calls Tryz.prog 62 #[.slice (some ⟨q, 0, none⟩) 1 1] wx fun e w' => e = .returned (.int .u32 (sb : Int)) ∧ w' = wx) := fun wx q hx hc => by
  have := sum_any (rdp_one hc (rdH.later hx)) (ht.later hx)
  rw [← hsb]
  simpa using this
 have HNe : Hid ((!decide (sa = sb)) = !((sa : Int) == (sb : Int))) := by
  unfold Hid
  congr 1
  rw [Bool.eq_iff_iff]
  simp
  omega
 have HSp := Lib.hid (fun (wx : World) (hx : Below w.heap.size w wx) => split_any (hr.later hx) h9 hl)
 have HN := Lib.hid hn
 have HR := Lib.hid hr
 have HSm := Lib.hid hsm
 have HSa := Lib.hid hsa
 have HSb := Lib.hid hsb
 have h4 : sm + 4 = n := by omega
 have h4i : (n : Int) - 4 = (sm : Int) := by omega
 clear rdT rdH hr hn ht hsa hsb hsm
 go_enter Tryz.func25, Tryz.ntmps25
 go_upto_region 6 with fail
 have BD : Below w.heap.size w w.drew := (Below.refl _ _).drew
 refine wp_region_noPanic ?_
 refine wp_region_held_drew (S := fun wx => Below w.heap.size w wx) (by kernel_rfl) BD (fun hHeld => ?_)
 refine wpAnyH_take (i := 0) (oi := { dst := some 16, op := _, type := _, pos := _, after := _, guard := _ }) (v := .slice (some ⟨b, off, none⟩) n c) rfl (by kernel_rfl) (by kernel_rfl) (by kernel_rfl) (fun _ _ _ h => h) (Or.inl ⟨by kernel_rfl, fun wy hy => by (go_simp; first | done | omega)⟩) (by assumption) ?_
 try simp only [Act.put, List.setIfInBounds_toArray, List.set_cons_zero, List.set_cons_succ]
 refine wpAnyH_take (i := 1) (oi := { dst := some 17, op := _, type := _, pos := _, after := _, guard := _ }) (v := .int .i64 (sm : Int)) rfl (by kernel_rfl) (by kernel_rfl) (by kernel_rfl) (fun _ _ _ h => h) (Or.inl ⟨by kernel_rfl, fun wy hy => by (go_simp; first | done | omega)⟩) (by assumption) ?_
 try simp only [Act.put, List.setIfInBounds_toArray, List.set_cons_zero, List.set_cons_succ]
 refine wpAnyH_take (i := 2) (oi := { dst := some 18, op := _, type := _, pos := _, after := _, guard := _ }) (v := .slice (some ⟨b, off + sm, none⟩) (n - sm) (c - sm)) rfl (by kernel_rfl) (by kernel_rfl) (by kernel_rfl) (fun _ _ _ h => h) (Or.inl ⟨by kernel_rfl, fun wy hy => by (go_simp; first | done | omega | (rw [if_pos (by omega), if_neg (by omega)]))⟩) (by assumption) ?_
 try simp only [Act.put, List.setIfInBounds_toArray, List.set_cons_zero, List.set_cons_succ]
 refine wpAnyH_take (i := 4) (oi := { dst := some 20, op := _, type := _, pos := _, after := _, guard := _ }) (v := .slice (some ⟨b, off, none⟩) n c) rfl (by kernel_rfl) (by kernel_rfl) (by kernel_rfl) (fun _ _ _ h => h) (Or.inl ⟨by kernel_rfl, fun wy hy => by (go_simp; first | done | omega)⟩) (by assumption) ?_
 try simp only [Act.put, List.setIfInBounds_toArray, List.set_cons_zero, List.set_cons_succ]
 refine wpAnyH_take (i := 5) (oi := { dst := some 21, op := _, type := _, pos := _, after := _, guard := _ }) (v := .int .i64 (sm : Int)) rfl (by kernel_rfl) (by kernel_rfl) (by kernel_rfl) (fun _ _ _ h => h) (Or.inl ⟨by kernel_rfl, fun wy hy => by (go_simp; first | done | omega)⟩) (by assumption) ?_
 try simp only [Act.put, List.setIfInBounds_toArray, List.set_cons_zero, List.set_cons_succ]
 refine wpAnyH_take (i := 6) (oi := { dst := some 22, op := _, type := _, pos := _, after := _, guard := _ }) (v := .slice (some ⟨b, off, none⟩) sm c) rfl (by kernel_rfl) (by kernel_rfl) (by kernel_rfl) (fun _ _ _ h => h) (Or.inl ⟨by kernel_rfl, fun wy hy => by (go_simp; first | done | omega | (rw [if_pos (by omega), if_neg (by omega)]))⟩) (by assumption) ?_
 try simp only [Act.put, List.setIfInBounds_toArray, List.set_cons_zero, List.set_cons_succ]
 refine wpAnyH_ready (rs := [3, 7]) (by kernel_rfl) (by simp) ?_
 refine AllReadyH.cons (o := { dst := some 19, op := _, type := _, pos := _, after := _, guard := _ }) rfl (fun KK hK => ?_) (AllReadyH.cons (o := { dst := some 23, op := _, type := _, pos := _, after := _, guard := _ }) rfl (fun KK hK => ?_) AllReadyH.nil)
 ·go_simp
  go_at_call 61
  refine (HRS.out _ BD).mono ?_
  rintro e1 X1 ⟨rfl, hb1⟩
  have bX1 : Below w.heap.size w X1 := BD.trans (hb1.mono BD.size)
  clear hb1 BD
  go_wp2_with fail
  refine hK.out _ _ bX1 (fun hHeld => ?_)
  clear hK
  try simp only [Act.put, List.setIfInBounds_toArray, List.set_cons_zero, List.set_cons_succ]
  refine wpAnyH_ready (rs := [7]) (by kernel_rfl) (by simp) ?_
  refine AllReadyH.cons (o := { dst := some 23, op := _, type := _, pos := _, after := _, guard := _ }) rfl (fun KK hK => ?_) AllReadyH.nil
  go_simp
  have bX3 : Below w.heap.size w (X1.alloc (.cells #[.slice (some ⟨b, off, none⟩) sm c] 36)) := bX1.alloc bX1.size _
  have hc3 : (X1.alloc (.cells #[.slice (some ⟨b, off, none⟩) sm c] 36)).cell? ⟨X1.heap.size, 0, none⟩ = some (.slice (some ⟨b, off, none⟩) sm c) := by simp
  refine hK.out _ _ bX3 (fun hHeld => ?_)
  clear hK
  generalize (X1.alloc (.cells #[.slice (some ⟨b, off, none⟩) sm c] 36)) = X3 at *
  try simp only [Act.put, List.setIfInBounds_toArray, List.set_cons_zero, List.set_cons_succ]
  refine wpAnyH_ready (rs := [8]) (by kernel_rfl) (by simp) ?_
  refine AllReadyH.cons (o := { dst := some 24, op := _, type := _, pos := _, after := _, guard := _ }) rfl (fun KK hK => ?_) AllReadyH.nil
  go_simp
  go_at_call 62
  refine (HSu.out _ _ bX3 hc3).mono ?_
  rintro e1 X4 ⟨rfl, rfl⟩
  go_wp2_with fail
  refine hK.out _ _ bX3 (fun hHeld => ?_)
  clear hK
  try simp only [Act.put, List.setIfInBounds_toArray, List.set_cons_zero, List.set_cons_succ]
  refine wpAnyH_take (i := 9) (oi := { dst := some 25, op := _, type := _, pos := _, after := _, guard := _ }) (v := .bool (!decide (sa = sb))) rfl (by kernel_rfl) (by kernel_rfl) (by kernel_rfl) (fun _ _ _ h => h) (Or.inl ⟨by kernel_rfl, fun wy hy => by (go_simp; first | done | exact HNe.out.symm | exact congrArg (fun z => Result.ok (Next.value (Value.bool z)) _) HNe.out.symm)⟩) (by assumption) ?_
  try simp only [Act.put, List.setIfInBounds_toArray, List.set_cons_zero, List.set_cons_succ]
  refine wpAnyH_done (by kernel_rfl) (NoPanic.normal ?_) _
  clear hHeld HSu HRS
  have HB4 := Lib.hid bX3
  clear bX3 hc3
  go_simp
  go_step
  have hne : ¬ 131072 < bs.length := by rw [← HN.out]; omega
  have hnl : ¬ bs.length < 9 := by rw [← HN.out]; omega
  have he4 : sumL (bs.take (bs.length - 4)) = sb := by rw [← HN.out, HSm.out]; exact HSb.out
  by_cases hss : sa = sb
  ·have HE : Hid (opE bs = if spOk bs ∧ soundB (rstOf bs) (cntOf bs) (entsOf bs) (placesOf5 bs) = true then 0 else 51) := by
    unfold Hid opE
    rw [if_neg hne, if_neg hnl, if_neg (by rw [HSa.out, he4]; exact fun k => k hss)]
   clear hne hnl he4
   rw [decide_eq_true hss]
   have HSp4 := Lib.hid (HSp.out _ HB4.out)
   clear HSp
   go_wp2_with fail
   refine Calls.mono HSp4.out ?_
   rintro z X5 ⟨b5, h | h⟩
   ·obtain ⟨hno, rfl⟩ := h
    have HEnd : Hid (OpP w bs (.returned (.tuple #[.pointer none, .int .i64 51])) X5) := by
     have e : opE bs = 51 := by rw [HE.out, if_neg (fun k => hno k.1)]
     exact ⟨HB4.out.trans (b5.mono HB4.out.size), .inl ⟨by rw [e]; decide, by rw [e]; rfl⟩⟩
    clear hno b5 HSp4
    go_wp2
    go_ret2
    exact HEnd.out
   ·obtain ⟨hsp, g, bo, ne, ce, np, cp, rfl, lk⟩ := h
    have hps := spOk_ps (by rw [← HN.out]; exact h9) hsp
    have hcn : cntOf bs < 4294967296 := rdle_lt _ _ _ _ (HR.out.1.get _) (HR.out.1.get _) (HR.out.1.get _) (HR.out.1.get _)
    have hel : (entsOf bs).length ≤ 131072 := by unfold entsOf; rw [List.length_take, ← HN.out]; omega
    have hpl : (placesOf5 bs).length ≤ 131072 := by unfold placesOf5; rw [List.length_drop, List.length_take, ← HN.out]; omega
    have hbl : bo < X5.heap.size := by
     have hp1 : 0 < (placesOf5 bs).length := by have := hps.2 0 (by have := hsp.1; omega); omega
     have := rd_cell lk.pls 0 (by rw [(rd_lens lk.pls).1]; exact hp1)
     exact World.block_lt_of_cell? X5 _ this.1
    have HSd := Lib.hid (sound_any lk.box lk.ents lk.pls hsp.2.1 hcn hps.2 hpl hel hbl hbl)
    have HLk := Lib.hid lk
    have HB5 := Lib.hid (HB4.out.trans (b5.mono HB4.out.size))
    have HSz : Hid (w.heap.size ≤ _) := HB4.out.size
    have HSpk := Lib.hid hsp
    obtain ⟨sd, hsd⟩ : ∃ sd, soundB (rstOf bs) (cntOf bs) (entsOf bs) (placesOf5 bs) = sd := ⟨_, rfl⟩
    rw [hsd] at HSd HE
    clear lk b5 hps hcn hel hpl hbl hsp HSp4 hsd
    go_wp2_with fail
    refine Calls.mono HSd.out ?_
    rintro z X6 ⟨rfl, b6⟩
    cases sd with
    | false =>
     have HEnd : Hid (OpP w bs (.returned (.tuple #[.pointer none, .int .i64 51])) X6) := by
      have e : opE bs = 51 := by rw [HE.out, if_neg (fun k => by cases k.2)]
      exact ⟨HB5.out.trans (b6.mono HB5.out.size), .inl ⟨by rw [e]; decide, by rw [e]; rfl⟩⟩
     clear b6 HSd
     go_wp2
     go_ret2
     exact HEnd.out
    | true =>
     have HEnd : Hid (OpP w bs (.returned (.tuple #[.pointer (some ⟨g, 0, none⟩), .int .i64 0])) X6) := by
      have e : opE bs = 0 := by rw [HE.out, if_pos ⟨HSpk.out, rfl⟩]
      have l := HLk.out
      exact ⟨HB5.out.trans (b6.mono HB5.out.size), .inr ⟨e, g, bo, ne, ce, np, cp, rfl, l.box.later b6, l.ents.later b6, l.pls.later b6, Nat.le_trans HSz.out l.bg, Nat.le_trans HSz.out l.bb, l.ne⟩⟩
     clear b6 HSd
     go_wp2
     go_ret2
     exact HEnd.out
  ·have HEnd : Hid (∀ X, Below w.heap.size w X → OpP w bs (.returned (.tuple #[.pointer none, .int .i64 52])) X) := by
    have e : opE bs = 52 := by
     unfold opE
     rw [if_neg hne, if_neg hnl, if_pos (by rw [HSa.out, he4]; exact hss)]
    exact fun X hX => ⟨hX, .inl ⟨by rw [e]; decide, by rw [e]; rfl⟩⟩
   clear hne hnl he4
   rw [decide_eq_false hss]
   go_wp2
   go_ret2
   exact HEnd.out _ HB4.out
 ·go_simp
  have bX1 : Below w.heap.size w (w.alloc (.cells #[.slice (some ⟨b, off, none⟩) sm c] 36)).drew := ((Below.refl _ _).alloc (Nat.le_refl _) _).drew
  have hc1 : (w.alloc (.cells #[.slice (some ⟨b, off, none⟩) sm c] 36)).drew.cell? ⟨w.heap.size, 0, none⟩ = some (.slice (some ⟨b, off, none⟩) sm c) := by simp
  refine hK.out _ _ bX1 (fun hHeld => ?_)
  clear hK BD
  generalize (w.alloc (.cells #[.slice (some ⟨b, off, none⟩) sm c] 36)).drew = X1 at *
  try simp only [Act.put, List.setIfInBounds_toArray, List.set_cons_zero, List.set_cons_succ]
  refine wpAnyH_ready (rs := [3]) (by kernel_rfl) (by simp) ?_
  refine AllReadyH.cons (o := { dst := some 19, op := _, type := _, pos := _, after := _, guard := _ }) rfl (fun KK hK => ?_) AllReadyH.nil
  go_simp
  go_at_call 61
  refine (HRS.out _ bX1).mono ?_
  rintro e1 X3 ⟨rfl, hb1⟩
  have bX3 : Below w.heap.size w X3 := bX1.trans (hb1.mono bX1.size)
  have hc3 : X3.cell? ⟨w.heap.size, 0, none⟩ = some (.slice (some ⟨b, off, none⟩) sm c) := by
   rw [hb1.cell (p := ⟨w.heap.size, 0, none⟩) (World.block_lt_of_cell? X1 _ hc1)]; exact hc1
  clear hb1 hc1 bX1
  go_wp2_with fail
  refine hK.out _ _ bX3 (fun hHeld => ?_)
  clear hK
  try simp only [Act.put, List.setIfInBounds_toArray, List.set_cons_zero, List.set_cons_succ]
  refine wpAnyH_ready (rs := [8]) (by kernel_rfl) (by simp) ?_
  refine AllReadyH.cons (o := { dst := some 24, op := _, type := _, pos := _, after := _, guard := _ }) rfl (fun KK hK => ?_) AllReadyH.nil
  go_simp
  go_at_call 62
  refine (HSu.out _ _ bX3 hc3).mono ?_
  rintro e1 X4 ⟨rfl, rfl⟩
  go_wp2_with fail
  refine hK.out _ _ bX3 (fun hHeld => ?_)
  clear hK
  try simp only [Act.put, List.setIfInBounds_toArray, List.set_cons_zero, List.set_cons_succ]
  refine wpAnyH_take (i := 9) (oi := { dst := some 25, op := _, type := _, pos := _, after := _, guard := _ }) (v := .bool (!decide (sa = sb))) rfl (by kernel_rfl) (by kernel_rfl) (by kernel_rfl) (fun _ _ _ h => h) (Or.inl ⟨by kernel_rfl, fun wy hy => by (go_simp; first | done | exact HNe.out.symm | exact congrArg (fun z => Result.ok (Next.value (Value.bool z)) _) HNe.out.symm)⟩) (by assumption) ?_
  try simp only [Act.put, List.setIfInBounds_toArray, List.set_cons_zero, List.set_cons_succ]
  refine wpAnyH_done (by kernel_rfl) (NoPanic.normal ?_) _
  clear hHeld HSu HRS
  have HB4 := Lib.hid bX3
  clear bX3 hc3
  go_simp
  go_step
  have hne : ¬ 131072 < bs.length := by rw [← HN.out]; omega
  have hnl : ¬ bs.length < 9 := by rw [← HN.out]; omega
  have he4 : sumL (bs.take (bs.length - 4)) = sb := by rw [← HN.out, HSm.out]; exact HSb.out
  by_cases hss : sa = sb
  ·have HE : Hid (opE bs = if spOk bs ∧ soundB (rstOf bs) (cntOf bs) (entsOf bs) (placesOf5 bs) = true then 0 else 51) := by
    unfold Hid opE
    rw [if_neg hne, if_neg hnl, if_neg (by rw [HSa.out, he4]; exact fun k => k hss)]
   clear hne hnl he4
   rw [decide_eq_true hss]
   have HSp4 := Lib.hid (HSp.out _ HB4.out)
   clear HSp
   go_wp2_with fail
   refine Calls.mono HSp4.out ?_
   rintro z X5 ⟨b5, h | h⟩
   ·obtain ⟨hno, rfl⟩ := h
    have HEnd : Hid (OpP w bs (.returned (.tuple #[.pointer none, .int .i64 51])) X5) := by
     have e : opE bs = 51 := by rw [HE.out, if_neg (fun k => hno k.1)]
     exact ⟨HB4.out.trans (b5.mono HB4.out.size), .inl ⟨by rw [e]; decide, by rw [e]; rfl⟩⟩
    clear hno b5 HSp4
    go_wp2
    go_ret2
    exact HEnd.out
   ·obtain ⟨hsp, g, bo, ne, ce, np, cp, rfl, lk⟩ := h
    have hps := spOk_ps (by rw [← HN.out]; exact h9) hsp
    have hcn : cntOf bs < 4294967296 := rdle_lt _ _ _ _ (HR.out.1.get _) (HR.out.1.get _) (HR.out.1.get _) (HR.out.1.get _)
    have hel : (entsOf bs).length ≤ 131072 := by unfold entsOf; rw [List.length_take, ← HN.out]; omega
    have hpl : (placesOf5 bs).length ≤ 131072 := by unfold placesOf5; rw [List.length_drop, List.length_take, ← HN.out]; omega
    have hbl : bo < X5.heap.size := by
     have hp1 : 0 < (placesOf5 bs).length := by have := hps.2 0 (by have := hsp.1; omega); omega
     have := rd_cell lk.pls 0 (by rw [(rd_lens lk.pls).1]; exact hp1)
     exact World.block_lt_of_cell? X5 _ this.1
    have HSd := Lib.hid (sound_any lk.box lk.ents lk.pls hsp.2.1 hcn hps.2 hpl hel hbl hbl)
    have HLk := Lib.hid lk
    have HB5 := Lib.hid (HB4.out.trans (b5.mono HB4.out.size))
    have HSz : Hid (w.heap.size ≤ _) := HB4.out.size
    have HSpk := Lib.hid hsp
    obtain ⟨sd, hsd⟩ : ∃ sd, soundB (rstOf bs) (cntOf bs) (entsOf bs) (placesOf5 bs) = sd := ⟨_, rfl⟩
    rw [hsd] at HSd HE
    clear lk b5 hps hcn hel hpl hbl hsp HSp4 hsd
    go_wp2_with fail
    refine Calls.mono HSd.out ?_
    rintro z X6 ⟨rfl, b6⟩
    cases sd with
    | false =>
     have HEnd : Hid (OpP w bs (.returned (.tuple #[.pointer none, .int .i64 51])) X6) := by
      have e : opE bs = 51 := by rw [HE.out, if_neg (fun k => by cases k.2)]
      exact ⟨HB5.out.trans (b6.mono HB5.out.size), .inl ⟨by rw [e]; decide, by rw [e]; rfl⟩⟩
     clear b6 HSd
     go_wp2
     go_ret2
     exact HEnd.out
    | true =>
     have HEnd : Hid (OpP w bs (.returned (.tuple #[.pointer (some ⟨g, 0, none⟩), .int .i64 0])) X6) := by
      have e : opE bs = 0 := by rw [HE.out, if_pos ⟨HSpk.out, rfl⟩]
      have l := HLk.out
      exact ⟨HB5.out.trans (b6.mono HB5.out.size), .inr ⟨e, g, bo, ne, ce, np, cp, rfl, l.box.later b6, l.ents.later b6, l.pls.later b6, Nat.le_trans HSz.out l.bg, Nat.le_trans HSz.out l.bb, l.ne⟩⟩
     clear b6 HSd
     go_wp2
     go_ret2
     exact HEnd.out
  ·have HEnd : Hid (∀ X, Below w.heap.size w X → OpP w bs (.returned (.tuple #[.pointer none, .int .i64 52])) X) := by
    have e : opE bs = 52 := by
     unfold opE
     rw [if_neg hne, if_neg hnl, if_pos (by rw [HSa.out, he4]; exact hss)]
    exact fun X hX => ⟨hX, .inl ⟨by rw [e]; decide, by rw [e]; rfl⟩⟩
   clear hne hnl he4
   rw [decide_eq_false hss]
   go_wp2
   go_ret2
   exact HEnd.out _ HB4.out
theorem opE_long {bs : List Nat} (h : 131072 < bs.length) : opE bs = 2 := by unfold opE; rw [if_pos h]
theorem opE_short {bs : List Nat} (h : bs.length < 9) : opE bs = 51 := by unfold opE; rw [if_neg (by omega), if_pos h]
set_option maxRecDepth 100000 in
theorem open_any {w : World} {a : Option Addr} {n c : Nat} {bs : List Nat} (hr : Rd w (.slice a n c) bs) (ht : Tab w) :
  Calls Tryz.prog 25 #[.slice a n c] w fun x w' => OpP w bs x w' := by
 obtain ⟨hn, hle, hm, hl48⟩ := rd_lens hr
 by_cases h1 : 131072 < n
 ·have h1i : (131072 : Int) < (n : Int) := by omega
  have HE := Lib.hid (opE_long (bs := bs) (by omega))
  clear hr ht hn
  go_enter Tryz.func25, Tryz.ntmps25
  go_wp2
  go_ret2
  exact ⟨Below.refl _ _, .inl ⟨by rw [HE.out]; decide, by rw [HE.out]; rfl⟩⟩
 by_cases h2 : n < 9
 ·have h1i : ¬ (131072 : Int) < (n : Int) := by omega
  have h2i : (n : Int) < 9 := by omega
  have HE := Lib.hid (opE_short (bs := bs) (by omega))
  clear hr ht hn
  go_enter Tryz.func25, Tryz.ntmps25
  go_wp2
  go_ret2
  exact ⟨Below.refl _ _, .inl ⟨by rw [HE.out]; decide, by rw [HE.out]; rfl⟩⟩
 rcases rd_some hr with ⟨_, h, _⟩ | ⟨b, off, rfl⟩
 ·omega
 ·exact open_in hr ht (by omega) (by omega)
end Go.Proofs.YtchebhafabhabaaGreatDoor

namespace Go.Proofs.YtchebhafabhabaaGreatDoor
open Go.RowKit
set_option linter.unusedVariables false

def T (s : Nat) : Nat := (s / 2) ^^^ (if s % 2 = 1 then 2197175160 else 0)
def Tn : Nat → Nat → Nat
 | 0, s => s
 | n + 1, s => Tn n (T s)

theorem xor_div2 (a b : Nat) : (a ^^^ b) / 2 = (a / 2) ^^^ (b / 2) := by
 have := Nat.shiftRight_xor_distrib (a := a) (b := b) (i := 1)
 simpa [Nat.shiftRight_eq_div_pow] using this
theorem xor_mod2 (a b : Nat) : (a ^^^ b) % 2 = (a % 2) ^^^ (b % 2) := by
 have h := Nat.xor_mod_two_pow (a := a) (b := b) (n := 1)
 simpa using h
theorem T_xor (a b : Nat) : T (a ^^^ b) = T a ^^^ T b := by
 unfold T
 rw [xor_div2, xor_mod2]
 have ha : a % 2 = 0 ∨ a % 2 = 1 := by omega
 have hb : b % 2 = 0 ∨ b % 2 = 1 := by omega
 rcases ha with ha | ha <;> rcases hb with hb | hb <;> simp [ha, hb]
 ·rw [Nat.xor_assoc]
 ·rw [Nat.xor_assoc, Nat.xor_assoc, Nat.xor_comm (b / 2)]
 ·rw [Nat.xor_comm (b / 2) 2197175160, ← Nat.xor_assoc, Nat.xor_assoc (a / 2), Nat.xor_self, Nat.xor_zero]
theorem Tn_xor (n a b : Nat) : Tn n (a ^^^ b) = Tn n a ^^^ Tn n b := by
 induction n generalizing a b with
 | zero => rfl
 | succ n ih => simp only [Tn]; rw [T_xor, ih]
theorem Tn_add (m n s : Nat) : Tn (m + n) s = Tn m (Tn n s) := by
 induction n generalizing s with
 | zero => rfl
 | succ n ih => rw [Nat.add_succ]; simp only [Tn]; exact ih (T s)
theorem T_two (q : Nat) : T (2 * q) = q := by unfold T; rw [if_neg (by omega), Nat.xor_zero]; omega
theorem half_eq (r : Nat) : half r = Tn 4 r := by
 have hr : r = (16 * (r / 16)) ^^^ (r % 16) := by
  have h1 := nat_join 4 (16 * (r / 16)) (r % 16) (by omega) (by omega)
  have h2 : (16 * (r / 16)) ^^^ (r % 16) = (16 * (r / 16)) ||| (r % 16) := by
   apply Nat.eq_of_testBit_eq
   intro i
   rw [Nat.testBit_xor, Nat.testBit_or]
   by_cases hi : i < 4
   ·have : (16 * (r / 16)).testBit i = false := by
     rw [show 16 * (r / 16) = 2 ^ 4 * (r / 16) by omega, Nat.testBit_two_pow_mul]
     simp; omega
    simp [this]
   ·have : (r % 16).testBit i = false := Nat.testBit_lt_two_pow (Nat.lt_of_lt_of_le (show r % 16 < 2 ^ 4 by omega) (Nat.pow_le_pow_right (by omega) (by omega)))
    simp [this]
  rw [h2, h1]; omega
 have h16 : Tn 4 (16 * (r / 16)) = r / 16 := by
  simp only [Tn]
  rw [show 16 * (r / 16) = 2 * (2 * (2 * (2 * (r / 16)))) by omega, T_two, T_two, T_two, T_two]
 have ht : ∀ i, i < 16 → Tn 4 i = tab.getD i 0 := by decide
 conv => rhs; rw [hr, Tn_xor, h16, ht (r % 16) (by omega)]
 rfl
theorem crcB_eq (r c : Nat) : crcB r c = Tn 8 (r ^^^ c) := by
 unfold crcB
 rw [half_eq, half_eq, ← Tn_add]
def xorL (a b : List Nat) : List Nat := List.zipWith (· ^^^ ·) a b
def errF (e : List Nat) : Nat := crcL 0 e
def flip (bs : List Nat) (k : Nat) : List Nat := bs.set (k / 8) (bs.getD (k / 8) 0 ^^^ 2 ^ (k % 8))
def par : Nat → Nat → Bool
 | 0, _ => false
 | k + 1, s => (s % 2 == 1) ^^ par k (s / 2)
def mapp : List Nat → Nat → Nat
 | [], _ => 0
 | a :: A, s => (if s % 2 = 1 then a else 0) ^^^ mapp A (s / 2)
def Rep (A : List Nat) (n : Nat) : Prop := A.length = 32 ∧ ∀ i, i < 32 → A.getD i 0 = Tn n (2 ^ i)
def msq (A : List Nat) : List Nat := A.map (mapp A)
def powv : Nat → List Nat → Nat → Nat
 | 0, _, v => v
 | k + 1, A, v => powv k (msq A) (mapp A v)
def A0 : List Nat := (List.range 32).map fun i => T (2 ^ i)
def chk : Nat → Nat → Bool
 | 0, lo => decide (lo < 2) || decide (2147483647 % lo ≠ 0)
 | k + 1, lo => chk k lo && chk k (lo + 2 ^ k)
end Go.Proofs.YtchebhafabhabaaGreatDoor

namespace Go.Proofs.YtchebhafabhabaaGreatDoor
open Go.RowKit
set_option linter.unusedVariables false

def flips (bs : List Nat) (l : List Nat) : List Nat := l.foldl flip bs
theorem le4_sum (s : Nat) (h : s < 4294967296) : rdle (s % 256) (s / 256 % 256) (s / 65536 % 256) (s / 16777216) = s := by unfold rdle; omega
end Go.Proofs.YtchebhafabhabaaGreatDoor

namespace Go.Proofs.YtchebhafabhabaaGreatDoor
open Go.RowKit Go.Shelf
set_option linter.unusedVariables false

theorem getD_mid (A B C : List Nat) (k : Nat) (hk : k < B.length) : (A ++ (B ++ C)).getD (A.length + k) 0 = B.getD k 0 := by
 rw [List.getD_eq_getElem?_getD, List.getD_eq_getElem?_getD, List.getElem?_append_right (by omega), Nat.add_sub_cancel_left, List.getElem?_append_left hk]
theorem blockL_len (E P : List Nat) (n r : Nat) : (blockL E P n r).length = E.length + P.length + 9 := by
 simp [blockL, bodyL, be4, le4]; omega
theorem block_cnt (E P : List Nat) (n r : Nat) (hn : n < 4294967296) : cntOf (blockL E P n r) = n ∧ rstOf (blockL E P n r) = r := by
 have e : blockL E P n r = (E ++ P) ++ (be4 n ++ ([r] ++ le4 (sumL (bodyL E P n r)))) := by simp [blockL, bodyL]
 have e2 : blockL E P n r = (E ++ P ++ be4 n) ++ ([r] ++ le4 (sumL (bodyL E P n r))) := by simp [blockL, bodyL]
 have f : (blockL E P n r).length - 9 = (E ++ P).length := by rw [blockL_len]; simp
 have g : ∀ k, k < 4 → (blockL E P n r).getD ((blockL E P n r).length - 9 + k) 0 = (be4 n).getD k 0 := fun k hk => by
  rw [f, e]
  exact getD_mid _ _ _ k (by simpa [be4] using hk)
 refine ⟨?_, ?_⟩
 ·unfold cntOf
  have g0 := g 0 (by omega)
  rw [Nat.add_zero] at g0
  rw [g0, g 1 (by omega), g 2 (by omega), g 3 (by omega)]
  simp only [be4, List.getD_cons_zero, List.getD_cons_succ]
  unfold rdle
  omega
 ·unfold rstOf
  have h4 : (blockL E P n r).length - 9 + 4 = (E ++ P ++ be4 n).length + 0 := by rw [f]; simp [be4]; omega
  rw [h4, e2]
  exact getD_mid _ _ _ 0 (by simp)
theorem block_sum (E P : List Nat) (n r : Nat) : (blockL E P n r).take ((blockL E P n r).length - 4) = bodyL E P n r ∧ sum4 (blockL E P n r) = sumL (bodyL E P n r) := by
 have f : (blockL E P n r).length - 4 = (bodyL E P n r).length := by simp [blockL, le4]
 have g : ∀ k, k < 4 → (blockL E P n r).getD ((blockL E P n r).length - 4 + k) 0 = (le4 (sumL (bodyL E P n r))).getD k 0 := fun k hk => by
  rw [f]
  have := getD_mid (bodyL E P n r) (le4 (sumL (bodyL E P n r))) [] k (by simpa [le4] using hk)
  rw [List.append_nil] at this
  exact this
 refine ⟨?_, ?_⟩
 ·rw [f]; unfold blockL; rw [List.take_left]
 ·unfold sum4
  have g0 := g 0 (by omega)
  rw [Nat.add_zero] at g0
  rw [g0, g 1 (by omega), g 2 (by omega), g 3 (by omega)]
  have := le4_sum (sumL (bodyL E P n r)) (sumL_lt _)
  simpa only [le4, List.getD_cons_zero, List.getD_cons_succ] using this
structure Blad (r : Nat) (l : List (List Nat × List Nat)) (E P : List Nat) : Prop where
 r1 : 1 ≤ r
 r16 : r ≤ 16
 es : E = (foldB r Bs.zero l).es
 ps : P = (foldB r Bs.zero l).ps
 ok : ∀ kv ∈ l, okIt kv.1 kv.2
 up : Up [] l
 some_ : l ≠ []
 size : E.length + P.length + 9 ≤ 131072
theorem foldB_few (r : Nat) : ∀ (l : List (List Nat × List Nat)) (s : Bs), s.n ≤ s.es.length → (foldB r s l).n ≤ (foldB r s l).es.length
 | [], s, h => h
 | kv :: t, s, h => by
  simp only [foldB]
  refine foldB_few r t _ ?_
  simp only [addB, esOf, List.length_append, recL]
  have := (uintL_len (shOf r s kv.1)).1
  omega
theorem Blad.few {r : Nat} {l : List (List Nat × List Nat)} {E P : List Nat} (h : Blad r l E P) : l.length ≤ E.length := by
 have := foldB_few r l Bs.zero (Nat.le_refl _)
 rw [foldB_n, ← h.es] at this
 simpa [Bs.zero] using this
theorem zero_ps {r : Nat} (hr : 1 ≤ r) : Bs.zero.ps.length = (Bs.zero.n + r - 1) / r * 4 := by
 have := (ceil_now (n := 0) hr).1 (by simp)
 simp only [Bs.zero]
 rw [this]
 simp
theorem Blad.psl {r : Nat} {l : List (List Nat × List Nat)} {E P : List Nat} (h : Blad r l E P) : P.length = (l.length + r - 1) / r * 4 := by
 have := ps_fold h.r1 l Bs.zero (zero_ps h.r1)
 rw [foldB_n, ← h.ps] at this
 simpa [Bs.zero] using this
theorem Blad.opens {r : Nat} {l : List (List Nat × List Nat)} {E P : List Nat} (h : Blad r l E P) : opE (blockL E P l.length r) = 0 ∧ cntOf (blockL E P l.length r) = l.length ∧ rstOf (blockL E P l.length r) = r ∧ entsOf (blockL E P l.length r) = E ∧ placesOf5 (blockL E P l.length r) = P := by
 have hs := h.size
 have hf := h.few
 have hp := h.psl
 have hl := blockL_len E P l.length r
 obtain ⟨c1, c2⟩ := block_cnt E P l.length r (by omega)
 obtain ⟨s1, s2⟩ := block_sum E P l.length r
 have hn : nrsOf (blockL E P l.length r) = (l.length + r - 1) / r := by unfold nrsOf; rw [c1, c2]
 have hpl : plsOf (blockL E P l.length r) = E.length := by unfold plsOf; rw [hn, hl]; omega
 have e : blockL E P l.length r = E ++ (P ++ (be4 l.length ++ ([r] ++ le4 (sumL (bodyL E P l.length r))))) := by simp [blockL, bodyL]
 have e3 : blockL E P l.length r = (E ++ P) ++ (be4 l.length ++ ([r] ++ le4 (sumL (bodyL E P l.length r)))) := by simp [blockL, bodyL]
 have hE : entsOf (blockL E P l.length r) = E := by unfold entsOf; rw [hpl, e, List.take_left]
 have hP : placesOf5 (blockL E P l.length r) = P := by
  unfold placesOf5
  rw [hpl, hl, e3, show E.length + P.length + 9 - 9 = (E ++ P).length by simp, List.take_left, List.drop_left]
 refine ⟨?_, c1, c2, hE, hP⟩
 have hl0 : l.length ≠ 0 := fun k => h.some_ (List.eq_nil_of_length_eq_zero k)
 unfold opE
 rw [if_neg (by omega), if_neg (by omega), if_neg (by rw [s1, s2]; exact fun k => k rfl), if_pos]
 refine ⟨⟨by rw [c1]; exact hl0, by rw [c2]; exact ⟨h.r1, h.r16⟩, by rw [hn, hl]; omega⟩, ?_⟩
 rw [c1, c2, hE, hP, h.es, h.ps]
 exact sound_lay h.r1 l h.ok h.up (by rw [← h.es]; omega)
theorem laid_of {r : Nat} {l : List EntD} (h1 : 1 ≤ r) (h16 : r ≤ 16) (h : (bldS r Bs.zero l).1 = 0) (hl : l ≠ []) : Blad r (kvL l) (bldS r Bs.zero l).2.es (bldS r Bs.zero l).2.ps := by
 obtain ⟨f1, f2, f3, f4⟩ := bldS_fold r l Bs.zero h
 rw [f1]
 refine ⟨h1, h16, rfl, rfl, ?_, f3, ?_, ?_⟩
 ·intro kv hkv
  obtain ⟨e, he, rfl⟩ := List.mem_map.1 hkv
  exact ok_of_check (f2 e he)
 ·intro k
  exact hl (List.map_eq_nil_iff.1 k)
 ·rcases f4 with rfl | f4
  ·exact absurd rfl hl
  ·exact f4
theorem kvL_len (l : List EntD) : (kvL l).length = l.length := by simp [kvL]
end Go.Proofs.YtchebhafabhabaaGreatDoor

namespace Go.Proofs.YtchebhafabhabaaGreatDoor
open Go.RowKit Go.Shelf
set_option linter.unusedVariables false

structure AtI (gi ge i B0 : Nat) (st : Option (List Nat × List Nat) × EntD) (w : World) : Prop where
 i_ : Cell1B w gi (.int .i64 (i : Int)) 3
 e : EBox w ge st.2
 o1 : Own w B0 st.2.vr st.2.row.length st.2.row
 o2 : Own w B0 st.2.vq st.2.qual.length st.2.qual
 o3 : Own w B0 st.2.vv st.2.val.length st.2.val
 by_ : Bys st.2.row ∧ Bys st.2.qual ∧ Bys st.2.val
 len : st.2.row.length ≤ 281474976710656 ∧ st.2.qual.length ≤ 281474976710656 ∧ st.2.val.length ≤ 281474976710656
 fact : ∀ kv, st.1 = some kv → (IsKey kv.1 → keyL st.2 = kv.1 ∧ st.2.val = kv.2) ∧ (checkS st.2 = 0 ↔ okIt kv.1 kv.2)
 lo : gi < B0 ∧ ge < B0 ∧ gi ≠ ge
 B : B0 ≤ w.heap.size
def AtO (ge : Nat) (st : Option (List Nat × List Nat) × EntD) (k : Nat) : Prop := k = ge ∨ st.2.vr.ownBlock = some k ∨ st.2.vq.ownBlock = some k ∨ st.2.vv.ownBlock = some k
def AtA (i : Nat) (st : Option (List Nat × List Nat)) (it : It) : Bool × Option (List Nat × List Nat) := if it.number < i then (true, st) else (false, some (it.key, it.val))
theorem Fb.of_apart {w w' : World} {g : Nat} {O : Nat → Prop} (h : Apart g w w') (hg : O g) : Fb w w' O := ⟨h.os, h.tape, h.output, h.size, fun k hk ho => h.block k hk (fun z => ho (by rw [z]; exact hg))⟩
end Go.Proofs.YtchebhafabhabaaGreatDoor

namespace Go.Proofs.YtchebhafabhabaaGreatDoor
open Go.RowKit Go.Shelf
set_option linter.unusedVariables false

theorem ask_at (i p : Nat) (r : Nat) : ∀ (l : List (List Nat × List Nat)) (s : Bs) (kv : List Nat × List Nat), s.n ≤ i → l[i - s.n]? = some kv → (askB (AtA i) p (itemsB r s l) none).2.2 = some kv
 | [], s, kv, h, hk => by simp at hk
 | x :: t, s, kv, h, hk => by
  simp only [itemsB, askB, AtA]
  by_cases hlt : s.n < i
  ·simp only [hlt, if_true]
   refine ask_at i p r t (addB r s x.1 x.2) kv (by simp only [addB]; omega) ?_
   rw [show i - s.n = (i - (addB r s x.1 x.2).n) + 1 by simp only [addB]; omega] at hk
   simpa using hk
  ·simp only [hlt, if_false]
   have : i - s.n = 0 := by omega
   rw [this] at hk
   simp at hk
   rw [← hk]
   rfl
theorem walk_from {S : Type} (A : S → It → Bool × S) {r : Nat} {l : List (List Nat × List Nat)} {E P : List Nat} (h : Blad r l E P) (q : Nat) (hq : q * r < l.length) (st : S) :
  wordAt P q ≤ E.length ∧ walkS E A (l.length - q * r) (q * r) (wordAt P q) [] st = askB A E.length (itemsB r (foldB r Bs.zero (l.take (q * r))) (l.drop (q * r))) st := by
 have hr := h.r1
 obtain ⟨s, hs⟩ : ∃ s, foldB r Bs.zero (l.take (q * r)) = s := ⟨_, rfl⟩
 have hsn : s.n = q * r := by rw [← hs, foldB_n]; simp [Bs.zero]; omega
 have hE : E = (foldB r s (l.drop (q * r))).es := by rw [h.es, ← hs, ← foldB_app, List.take_append_drop]
 have hP : P = (foldB r s (l.drop (q * r))).ps := by rw [h.ps, ← hs, ← foldB_app, List.take_append_drop]
 have hps : s.ps.length = (s.n + r - 1) / r * 4 := by rw [← hs]; exact ps_fold hr _ _ (zero_ps hr)
 have h0 : s.n % r = 0 := by rw [hsn]; exact Nat.mul_mod_left _ _
 have hla : s.la.length ≤ s.es.length := by
  rw [← hs]
  have : ∀ (l : List (List Nat × List Nat)) (s : Bs), s.la.length ≤ s.es.length → (foldB r s l).la.length ≤ (foldB r s l).es.length := by
   intro l
   induction l with
   | nil => intro s h; exact h
   | cons kv t ih => intro s h; simp only [foldB]; exact ih _ (com_la r s kv.1 kv.2 h).2.2
  exact this _ _ (Nat.le_refl _)
 obtain ⟨m, hm⟩ := foldB_es r (l.drop (q * r)) s
 have hel : s.es.length ≤ E.length := by rw [hE, hm]; simp
 have hsz := h.size
 obtain ⟨x, t, hxt⟩ : ∃ x t, l.drop (q * r) = x :: t := by
  cases hd : l.drop (q * r) with
  | nil => have := List.drop_eq_nil_iff.1 hd; omega
  | cons x t => exact ⟨x, t, rfl⟩
 have hw : wordAt P q = s.es.length := by
  rw [hP, hxt]
  have := word_lay hr x t s hps h0 (by omega)
  rw [hsn, Nat.mul_div_cancel _ (by omega)] at this
  exact this
 refine ⟨by omega, ?_⟩
 rw [hw, hs]
 have := walk_lay A r (l.drop (q * r)) s [] st E hE (.inl h0) hla (by omega)
 rw [List.length_drop, hsn] at this
 exact this
def AtP (w : World) (l : List (List Nat × List Nat)) (i : Int) (x : Ending) (w' : World) : Prop :=
 Below w.heap.size w w' ∧ ((¬ (0 ≤ i ∧ i < l.length) ∧ x = .returned (.tuple #[.agg #[.slice none 0 0, .int .i64 0, .slice none 0 0, .int .i64 0, .int .i64 0, .int .i64 0, .slice none 0 0], .int .i64 1])) ∨
  (0 ≤ i ∧ ∃ kv e, l[i.toNat]? = some kv ∧ x = .returned (.tuple #[.agg (EntD.cells e), .int .i64 0]) ∧ EntD.Ok w' e ∧ checkS e = 0 ∧ keyL e = kv.1 ∧ e.val = kv.2 ∧ Own w' w.heap.size e.vr e.row.length e.row ∧ Own w' w.heap.size e.vq e.qual.length e.qual ∧ Own w' w.heap.size e.vv e.val.length e.val))
theorem two_at (W : World) (i : Int) : ∃ X, X = (W.alloc (.cells #[.int .i64 i] 3)).alloc (.cells #[.slice none 0 0, .int .i64 0, .slice none 0 0, .int .i64 0, .int .i64 0, .int .i64 0, .slice none 0 0] 40) ∧ Below W.heap.size W X ∧ X.heap.size = W.heap.size + 2 ∧ Cell1B X W.heap.size (.int .i64 i) 3 ∧ EBox X (W.heap.size + 1) ⟨.slice none 0 0, 0, .slice none 0 0, 0, 0, 0, .slice none 0 0, [], [], []⟩ := by
 have A1 := (Below.refl W.heap.size W).alloc (Nat.le_refl _) (.cells #[.int .i64 i] 3)
 refine ⟨_, rfl, A1.alloc A1.size _, by simp, ?_, ?_⟩
 ·exact Cell1B.fb (O := fun _ => False) (heap_alloc_new W _) (Fb.of_below ((Below.refl _ _).alloc (Nat.le_refl _) _)) id
 ·have := EBox.new (W.alloc (.cells #[.int .i64 i] 3)) ⟨.slice none 0 0, 0, .slice none 0 0, 0, 0, 0, .slice none 0 0, [], [], []⟩
  simpa [EntD.cells] using this
set_option maxRecDepth 100000 in
set_option maxHeartbeats 4000000 in
theorem at_out {W : World} {g r n b ne ce np cp B : Nat} {E P : List Nat} {l : List (List Nat × List Nat)} (hL : Blad r l E P) (hk : Lk W B g r l.length b ne ce E P np cp) (i : Int) (hi : ¬ (0 ≤ i ∧ i < l.length)) :
  Calls Tryz.prog 34 #[.pointer (some ⟨g, 0, none⟩), .int .i64 i] W fun x w' => AtP W l i x w' := by
 obtain ⟨X, hX, bX, sX, cX, eX⟩ := two_at W i
 obtain ⟨q0, q1, q2, q3⟩ := (hk.box.later bX).cells
 have d0 := cX.cell
 obtain ⟨g0, g1, g2, g3, g4, g5, g6⟩ := eX.cells7
 obtain ⟨gf0, gf1, gf2, gf3, gf4, gf5, gf6⟩ := EBox.fz7b eX
 simp only at g0 g1 g2 g3 g4 g5 g6
 have HX := Lib.hid hX
 obtain ⟨N, hN⟩ : ∃ N, N = l.length := ⟨_, rfl⟩
 rw [← hN] at q1 hi
 have HEnd : Hid (∀ Y, Below W.heap.size W Y → AtP W l i (.returned (.tuple #[.agg #[.slice none 0 0, .int .i64 0, .slice none 0 0, .int .i64 0, .int .i64 0, .int .i64 0, .slice none 0 0], .int .i64 1])) Y) := fun Y hY => ⟨hY, .inl ⟨by rw [← hN]; exact hi, rfl⟩⟩
 clear hk hX cX hL hN g0 g1 g2 g3 g4 g5 g6 gf0 gf1 gf2 gf3 gf4 gf5 gf6
 by_cases h0 : i < 0
 ·go_enter Tryz.func34, Tryz.ntmps34
  go_upto_region 1 with fail
  rw [← HX.out]
  clear HX
  go_quiet (fail)
  have bY := below_drewN (Below.refl X.heap.size X) nq
  have eY := eX.later bY
  have bWY := bX.trans (bY.mono bX.size)
  generalize X.drewN nq = Y at *
  obtain ⟨g0, g1, g2, g3, g4, g5, g6⟩ := eY.cells7
  obtain ⟨gf0, gf1, gf2, gf3, gf4, gf5, gf6⟩ := EBox.fz7b eY
  simp only at g0 g1 g2 g3 g4 g5 g6
  have bx := filled_box eY ⟨.slice none 0 0, 0, .slice none 0 0, 0, 0, 0, .slice none 0 0, [], [], []⟩
  have ap := filled_apart Y (W.heap.size + 1) ⟨.slice none 0 0, 0, .slice none 0 0, 0, 0, 0, .slice none 0 0, [], [], []⟩
  have HZ := Lib.hid (And.intro bx (bWY.trans (ap.below (by omega) bWY.size)))
  simp only [filled] at HZ
  clear bx ap eY bY bWY eX
  go_wp2
  have HH := HZ.out
  clear HZ
  generalize (((((((Y.setCell ⟨W.heap.size + 1, 0, none⟩ (.slice none 0 0)).setCell ⟨W.heap.size + 1, 1, none⟩ (.int .i64 0)).setCell ⟨W.heap.size + 1, 2, none⟩ (.slice none 0 0)).setCell ⟨W.heap.size + 1, 3, none⟩ (.int .i64 0)).setCell ⟨W.heap.size + 1, 4, none⟩ (.int .i64 0)).setCell ⟨W.heap.size + 1, 5, none⟩ (.int .i64 0)).setCell ⟨W.heap.size + 1, 6, none⟩ (.slice none 0 0)) = WZ at *
  obtain ⟨fb, bw⟩ := HH
  obtain ⟨t0, t1, t2, t3, t4, t5, t6⟩ := fb.cells7
  simp only at t0 t1 t2 t3 t4 t5 t6
  (try simp only [Exit.inBlock, Exit.then])
  refine bodyPost_ret (v := .tuple #[.agg #[.slice none 0 0, .int .i64 0, .slice none 0 0, .int .i64 0, .int .i64 0, .int .i64 0, .slice none 0 0], .int .i64 1]) ?hres rfl ?_
  case hres => simp [results, Tryz.results34, go_sem, t0, t1, t2, t3, t4, t5, t6]
  exact HEnd.out _ bw
 ·have h1 : ¬ i < (N : Int) := fun k => hi ⟨by omega, k⟩
  have h2 : (N : Int) ≤ i := by omega
  go_enter Tryz.func34, Tryz.ntmps34
  go_upto_region 1 with fail
  rw [← HX.out]
  clear HX
  go_quiet (fail)
  have bY := below_drewN (Below.refl X.heap.size X) nq
  have eY := eX.later bY
  have bWY := bX.trans (bY.mono bX.size)
  generalize X.drewN nq = Y at *
  obtain ⟨g0, g1, g2, g3, g4, g5, g6⟩ := eY.cells7
  obtain ⟨gf0, gf1, gf2, gf3, gf4, gf5, gf6⟩ := EBox.fz7b eY
  simp only at g0 g1 g2 g3 g4 g5 g6
  have bx := filled_box eY ⟨.slice none 0 0, 0, .slice none 0 0, 0, 0, 0, .slice none 0 0, [], [], []⟩
  have ap := filled_apart Y (W.heap.size + 1) ⟨.slice none 0 0, 0, .slice none 0 0, 0, 0, 0, .slice none 0 0, [], [], []⟩
  have HZ := Lib.hid (And.intro bx (bWY.trans (ap.below (by omega) bWY.size)))
  simp only [filled] at HZ
  clear bx ap eY bY bWY eX
  go_wp2
  have HH := HZ.out
  clear HZ
  generalize (((((((Y.setCell ⟨W.heap.size + 1, 0, none⟩ (.slice none 0 0)).setCell ⟨W.heap.size + 1, 1, none⟩ (.int .i64 0)).setCell ⟨W.heap.size + 1, 2, none⟩ (.slice none 0 0)).setCell ⟨W.heap.size + 1, 3, none⟩ (.int .i64 0)).setCell ⟨W.heap.size + 1, 4, none⟩ (.int .i64 0)).setCell ⟨W.heap.size + 1, 5, none⟩ (.int .i64 0)).setCell ⟨W.heap.size + 1, 6, none⟩ (.slice none 0 0)) = WZ at *
  obtain ⟨fb, bw⟩ := HH
  obtain ⟨t0, t1, t2, t3, t4, t5, t6⟩ := fb.cells7
  simp only at t0 t1 t2 t3 t4 t5 t6
  (try simp only [Exit.inBlock, Exit.then])
  refine bodyPost_ret (v := .tuple #[.agg #[.slice none 0 0, .int .i64 0, .slice none 0 0, .int .i64 0, .int .i64 0, .int .i64 0, .slice none 0 0], .int .i64 1]) ?hres rfl ?_
  case hres => simp [results, Tryz.results34, go_sem, t0, t1, t2, t3, t4, t5, t6]
  exact HEnd.out _ bw
end Go.Proofs.YtchebhafabhabaaGreatDoor

namespace Go.Proofs.YtchebhafabhabaaGreatDoor
open Go.RowKit Go.Shelf
set_option linter.unusedVariables false

theorem Cell1B.later {w w' : World} {g t : Nat} {v : Value} (h : Cell1B w g v t) (b : Below w.heap.size w w') : Cell1B w' g v t := h.fb (O := fun _ => False) (Fb.of_below b) id
end Go.Proofs.YtchebhafabhabaaGreatDoor
