import Derived.Test.YtlkhphhmhffdjaaK10
set_option linter.unusedSimpArgs false
set_option linter.unusedVariables false
namespace Go.Proofs.Ytlkhphhmhffdjaa
open Go.RowKit Go.MapKept Go.Sort
variable {w w' W X : World} {O O' : Nat → Prop} {dB rB : Nat} {d r : Dk4}
theorem rea_rdy4 {s : ByteArray} (h : reaE r s = 0) : rdyN r.down [s] = 0 := by
 unfold reaE at h
 split at h
 ·assumption
 ·assumption
theorem rea_some4 {s : ByteArray} (h : reaE r s = 0) : ∃ v, atP r.fs s = some v := by
 unfold reaE at h
 cases hv : atP r.fs s with
 | some v => exact ⟨v, rfl⟩
 | none =>
  rw [hv] at h
  split at h
  ·cases h
  ·rename_i h2
   exact absurd h h2
set_option maxRecDepth 100000 in
set_option maxHeartbeats 8000000 in
theorem rDelete_any {s : ByteArray} (h : RD w O rB r) : Calls Try.prog 60 #[.pointer (some ⟨rB, 0, none⟩), .string s] w (AnsR w O rB (deleteD r s)) := by
 have h9 := h
 obtain ⟨⟨ok, srt⟩, a, n, k, l, hm, hl⟩ := h
 have hR : ∃ R, R = deleteD r s := ⟨_, rfl⟩
 obtain ⟨R, hR⟩ := hR
 rw [← hR]
 have hn : n = r.fs.length := by rw [← hl, List.length_map]; exact hm.row.len
 have HM := Lib.hid (And.intro hm (And.intro hl hn))
 have HOK := Lib.hid (And.intro ok srt)
 have H9 := Lib.hid h9
 have hth := rThere_any hm s
 rw [hl] at hth
 have hq : ∃ q, q = reaE r s := ⟨_, rfl⟩
 obtain ⟨q, hq⟩ := hq
 have hth2 : Calls Try.prog 51 #[.pointer (some ⟨rB, 0, none⟩), .string s] w fun e w' => e = .returned (.int .i64 q) ∧ w' = w := by rw [hq]; exact hth
 have HT := Lib.hid hth2
 have HQ := Lib.hid hq
 have HR := Lib.hid hR
 clear ok srt hm hl hn h9 hth hth2 hq hR
 by_cases h0 : q = 0
 ·subst h0
  have hsome := rea_some4 HQ.out.symm
  obtain ⟨v, hv⟩ := hsome
  have hdn := rdy_dn (rea_rdy4 HQ.out.symm)
  have HV := Lib.hid hv
  have HDN := Lib.hid hdn
  clear hv hdn
  have hRR : R = actP r false (delP r.fs s) (setCt r.c 4 (wrap64 (r.c 4 + 1))) := by rw [HR.out, deleteD, if_neg (by rw [← HQ.out]; simp)]
  by_cases ha : r.arm = 1
  ·rw [actP_1 ha] at hRR
   simp only [Bool.false_eq_true, if_false] at hRR
   have hla := rLast_any HM.out.1 HOK.out.1.arm0 HOK.out.1.arm1
   rw [ha, lastP_1] at hla
   have HLA := Lib.hid hla
   subst hRR
   clear ha hla
   go_enter Try.func60, Try.ntmps60
   go_wp2_with fail
   refine HT.out.mono ?_
   rintro e w2 ⟨rfl, rfl⟩
   go_wp2_with fail
   refine HLA.out.mono ?_
   rintro e w3 ⟨rfl, h3, g3⟩
   have H3 := Lib.hid (And.intro h3 g3)
   clear h3 g3
   go_wp2
   go_ret
   exact ⟨rfl, O, ⟨⟨HOK.out.1.mk2 HOK.out.1.fs (by decide) (by decide) true r.c, HOK.out.2⟩, _, _, _, _, H3.out.1, HM.out.2.1⟩, H3.out.2⟩
  ·have hA1 : ∃ A1, A1 = if 0 < r.arm then r.arm - 1 else 0 := ⟨_, rfl⟩
   obtain ⟨A1, hA1⟩ := hA1
   have hl2 := actP_n (torn := false) (f := delP r.fs s) (x := setCt r.c 4 (wrap64 (r.c 4 + 1))) ha HOK.out.1.arm0 HDN.out
   rw [← hA1] at hl2
   rw [hl2.2] at hRR
   have HLAST := Lib.hid (And.intro hl2.1 (And.intro ha hA1))
   have HA1 : Hid (0 ≤ A1 ∧ A1 ≤ 9223372036854775807) := by
    have h0 := HOK.out.1.arm0
    have h1 := HOK.out.1.arm1
    rw [hA1]
    unfold Hid
    split <;> omega
   subst hRR
   clear hA1 hl2 ha
   have hla := rLast_any HM.out.1 HOK.out.1.arm0 HOK.out.1.arm1
   rw [HLAST.out.1] at hla
   have HLA := Lib.hid hla
   clear hla
   go_enter Try.func60, Try.ntmps60
   go_wp2_with fail
   refine HT.out.mono ?_
   rintro e w2 ⟨rfl, rfl⟩
   go_wp2_with fail
   refine HLA.out.mono ?_
   rintro e w3 ⟨rfl, h3, g3⟩
   have H3 := Lib.hid (And.intro h3 g3)
   clear h3 g3
   go_wp2_with fail
   refine (rDrop_any H3.out.1 (by have := HM.out.2.2; have := HOK.out.1.cnt; omega) s).mono ?_
   rintro e w4 ⟨rfl, O4, a4, n4, k4, ⟨h4, g4⟩, _, _⟩
   have H4 := Lib.hid (And.intro h4 (H3.out.2.trans g4))
   have c4 := h4.box.cells.2.2.2.2.1
   have c8 := h4.box.cells.2.2.2.2.2.2.2.2.1
   have z4 := h4.box.fz 4
   have z8 := h4.box.fz 8
   have HO := Lib.hid h4.orb
   clear h4 g4
   go_wp2
   go_ret
   refine ⟨rfl, O4, ⟨⟨HOK.out.1.mk2 (fsOk_del HOK.out.1) HA1.out.1 HA1.out.2 false _, ?_⟩, a4, n4, k4, dropR l s, ?_, ?_⟩, H4.out.2.trans ((Go4.of_set (a := ⟨rB, 4, none⟩) HO.out _).trans (Go4.of_set (a := ⟨rB, 8, none⟩) HO.out _))⟩
   ·have e : delP r.fs s = r.fs.filter (fun p => decide (p.1 ≠ s)) := delP_filter HOK.out.2.nod
    simp only
    rw [e]
    exact List.Pairwise.sublist List.filter_sublist HOK.out.2
   ·have := (H4.out.1.setCt 0 (by decide) (wrap64 (r.c 0 + 1))).setCt 4 (by decide) (wrap64 (r.c 4 + 1))
    rw [ct_swap (by decide)] at this
    simp only [ct_0 (c := r.c) (k := 4) (y := wrap64 (r.c 4 + 1)) (by decide)]
    exact this
   ·rw [dropR_map, HM.out.2.1]
    exact (delP_filter HOK.out.2.nod).symm
 ·have h0n : (q != 0) = true := by simp [h0]
  have hRR : R = (q, r) := by rw [HR.out, deleteD, if_pos (by rw [← HQ.out]; exact h0), ← HQ.out]
  subst hRR
  go_enter Try.func60, Try.ntmps60
  go_wp2_with fail
  refine HT.out.mono ?_
  rintro e w2 ⟨rfl, rfl⟩
  go_wp2
  go_ret
  exact ⟨rfl, O, H9.out, Go4.refl _ _⟩
theorem row_fz {B n k g : Nat} {l : List (PF × Value)} (h : FRow w B (.slice (some ⟨g, 0, none⟩) n k) n l) (e : True = True) (j : Nat) : w.frozen? ⟨g, j, none⟩ = false := by
 rcases h.row.2 with ⟨h1, _⟩ | ⟨g', cap, cur, h1, h2, h3, _⟩
 ·cases h1
 ·simp only [Value.slice.injEq, Option.some.injEq, Addr.mk.injEq] at h1
  obtain ⟨⟨rfl, -, -⟩, -, rfl⟩ := h1
  simp [World.frozen?, h3]
set_option maxRecDepth 100000 in
set_option maxHeartbeats 8000000 in
theorem rSync_any {s : ByteArray} (h : RD w O rB r) : Calls Try.prog 58 #[.pointer (some ⟨rB, 0, none⟩), .string s] w (AnsR w O rB (syncD r s)) := by
 have h9 := h
 obtain ⟨⟨ok, srt⟩, a, n, k, l, hm, hl⟩ := h
 have hR : ∃ R, R = syncD r s := ⟨_, rfl⟩
 obtain ⟨R, hR⟩ := hR
 rw [← hR]
 have hn : n = r.fs.length := by rw [← hl, List.length_map]; exact hm.row.len
 have HM := Lib.hid (And.intro hm (And.intro hl hn))
 have HOK := Lib.hid (And.intro ok srt)
 have H9 := Lib.hid h9
 have hth := rThere_any hm s
 rw [hl] at hth
 have hq : ∃ q, q = reaE r s := ⟨_, rfl⟩
 obtain ⟨q, hq⟩ := hq
 have hth2 : Calls Try.prog 51 #[.pointer (some ⟨rB, 0, none⟩), .string s] w fun e w' => e = .returned (.int .i64 q) ∧ w' = w := by rw [hq]; exact hth
 have HT := Lib.hid hth2
 have HQ := Lib.hid hq
 have HR := Lib.hid hR
 clear ok srt hm hl hn h9 hth hth2 hq hR
 by_cases h0 : q = 0
 ·subst h0
  have hsome := rea_some4 HQ.out.symm
  obtain ⟨v, hv⟩ := hsome
  have hdn := rdy_dn (rea_rdy4 HQ.out.symm)
  have HV := Lib.hid hv
  have HDN := Lib.hid hdn
  clear hv hdn
  have hRR : R = actP r false (setP r.fs (s, v.1, v.1.length)) (setCt r.c 2 (wrap64 (r.c 2 + 1))) := by rw [HR.out, syncD, if_neg (by rw [← HQ.out]; simp), HV.out]; rfl
  by_cases ha : r.arm = 1
  ·rw [actP_1 ha] at hRR
   simp only [Bool.false_eq_true, if_false] at hRR
   have hla := rLast_any HM.out.1 HOK.out.1.arm0 HOK.out.1.arm1
   rw [ha, lastP_1] at hla
   have HLA := Lib.hid hla
   subst hRR
   clear ha hla
   go_enter Try.func58, Try.ntmps58
   go_wp2_with fail
   refine HT.out.mono ?_
   rintro e w2 ⟨rfl, rfl⟩
   go_wp2_with fail
   refine HLA.out.mono ?_
   rintro e w3 ⟨rfl, h3, g3⟩
   have H3 := Lib.hid (And.intro h3 g3)
   clear h3 g3
   go_wp2
   go_ret
   exact ⟨rfl, O, ⟨⟨HOK.out.1.mk2 HOK.out.1.fs (by decide) (by decide) true r.c, HOK.out.2⟩, _, _, _, _, H3.out.1, HM.out.2.1⟩, H3.out.2⟩
  ·have hA1 : ∃ A1, A1 = if 0 < r.arm then r.arm - 1 else 0 := ⟨_, rfl⟩
   obtain ⟨A1, hA1⟩ := hA1
   have hl2 := actP_n (torn := false) (f := setP r.fs (s, v.1, v.1.length)) (x := setCt r.c 2 (wrap64 (r.c 2 + 1))) ha HOK.out.1.arm0 HDN.out
   rw [← hA1] at hl2
   rw [hl2.2] at hRR
   have HLAST := Lib.hid (And.intro hl2.1 (And.intro ha hA1))
   have HA1 : Hid (0 ≤ A1 ∧ A1 ≤ 9223372036854775807) := by
    have h0 := HOK.out.1.arm0
    have h1 := HOK.out.1.arm1
    rw [hA1]
    unfold Hid
    split <;> omega
   subst hRR
   clear hA1 hl2 ha
   have hla := rLast_any HM.out.1 HOK.out.1.arm0 HOK.out.1.arm1
   rw [HLAST.out.1] at hla
   have HLA := Lib.hid hla
   clear hla
   have hidx : ∃ i, idxP (l.map (·.1)) s = some i := by
    cases hi : idxP (l.map (·.1)) s with
    | some i => exact ⟨i, rfl⟩
    | none =>
     have := (idxP_none hi).1
     rw [HM.out.2.1, HV.out] at this
     cases this
   obtain ⟨i, hi⟩ := hidx
   have e2 : idxI (l.map (·.1)) s = (i : Int) := by unfold idxI; rw [hi]
   obtain ⟨v2, hi1, hi2, _⟩ := idxP_some hi
   rw [HM.out.2.1, HV.out] at hi2
   cases hi2
   rw [List.getElem?_map] at hi1
   obtain ⟨x, hx, ex⟩ := Option.map_eq_some_iff.1 hi1
   have hset := setP_idx (v := (v.1, v.1.length)) hi
   rw [HM.out.2.1] at hset
   have HI := Lib.hid (And.intro hset ex)
   have HX := Lib.hid hx
   have hin : i < n := by have := (List.getElem?_eq_some_iff.1 hx).1; have := HM.out.1.row.len; omega
   have i1 : (i : Int) < (n : Int) := by omega
   have i2 : (0 : Int) ≤ (i : Int) := by omega
   clear hi hi1 hset hx
   go_enter Try.func58, Try.ntmps58
   go_wp2_with fail
   refine HT.out.mono ?_
   rintro e w2 ⟨rfl, rfl⟩
   go_wp2_with fail
   refine HLA.out.mono ?_
   rintro e w3 ⟨rfl, h3, g3⟩
   have H3 := Lib.hid (And.intro h3 g3)
   clear h3 g3
   have hat := rAt_any H3.out.1 s
   rw [e2] at hat
   have HAT := Lib.hid hat
   clear hat e2
   go_wp2_with fail
   refine HAT.out.mono ?_
   rintro e w4 ⟨rfl, rfl⟩
   have hat2 := H3.out.1.row.at_ HX.out
   obtain ⟨g, hag, _, cx0, cx1, cx2⟩ := hat2
   subst hag
   have lg := World.block_lt_of_cell? _ _ cx0
   simp only at lg
   obtain ⟨xa, xc, hxv⟩ := (H3.out.1.dat x (List.mem_of_getElem? HX.out)).form
   have hnx : ∃ nx, nx = x.1.2.1.length := ⟨_, rfl⟩
   obtain ⟨nx, hnx⟩ := hnx
   have hxs : ∃ xs, xs = x.1.2.2 := ⟨_, rfl⟩
   obtain ⟨xs, hxs⟩ := hxs
   rw [hxv, ← hnx] at cx1
   rw [← hnx] at hxv
   rw [← hxs] at cx2
   have CX := Lib.hid cx1
   have CS := Lib.hid cx2
   have HXV := Lib.hid (And.intro hxv hnx)
   clear cx0 cx1 cx2 hxv hnx hxs
   go_upto_region 7 with fail
   have BD : Below w4.heap.size w4 w4.drew := (Below.refl _ _).drew
   refine wp_region_noPanic ?_
   refine wp_region_anyE (S := fun wx => Below w4.heap.size w4 wx) (E := fun j => !(decide (j = 16))) (by kernel_rfl) ?_
   have hHeld : Below w4.heap.size w4 w4.drew := BD
   have HB := Lib.hid BD
   have hZ0 : ∃ z, z = w4.drew := ⟨_, rfl⟩
   obtain ⟨Z0, hZ0⟩ := hZ0
   rw [← hZ0] at HB hHeld ⊢
   clear hZ0 BD
   refine AnyE.take (i := 0) (.pointer (some ⟨rB, 0, none⟩)) rfl (by kernel_rfl) (by kernel_rfl) (by kernel_rfl) (by kernel_rfl) (fun _ _ _ h => h) (.inl ⟨by kernel_rfl, fun wy hy => by (go_simp; done)⟩) hHeld ?_
   try simp only [Act.put, List.setIfInBounds_toArray, List.set_cons_zero, List.set_cons_succ]
   refine AnyE.take (i := 1) (.pointer (some ⟨rB, 0, none⟩)) rfl (by kernel_rfl) (by kernel_rfl) (by kernel_rfl) (by kernel_rfl) (fun _ _ _ h => h) (.inl ⟨by kernel_rfl, fun wy hy => by (go_simp; done)⟩) hHeld ?_
   try simp only [Act.put, List.setIfInBounds_toArray, List.set_cons_zero, List.set_cons_succ]
   refine AnyE.take (i := 2) (.pointer (some ⟨rB, 1, none⟩)) rfl (by kernel_rfl) (by kernel_rfl) (by kernel_rfl) (by kernel_rfl) (fun _ _ _ h => h) (.inl ⟨by kernel_rfl, fun wy hy => by (go_simp; done)⟩) hHeld ?_
   try simp only [Act.put, List.setIfInBounds_toArray, List.set_cons_zero, List.set_cons_succ]
   refine AnyE.take (i := 3) (.slice (some ⟨g, 0, none⟩) n k) rfl (by kernel_rfl) (by kernel_rfl) (by kernel_rfl) (by kernel_rfl) (fun _ _ _ h => h) (.inl ⟨by kernel_rfl, fun wy hy => by (have q0 := (H3.out.1.below hy).box.cells.2.1; go_simp; done)⟩) hHeld ?_
   try simp only [Act.put, List.setIfInBounds_toArray, List.set_cons_zero, List.set_cons_succ]
   refine AnyE.take (i := 4) (.int .i64 (i : Int)) rfl (by kernel_rfl) (by kernel_rfl) (by kernel_rfl) (by kernel_rfl) (fun _ _ _ h => h) (.inl ⟨by kernel_rfl, fun wy hy => by (go_simp; done)⟩) hHeld ?_
   try simp only [Act.put, List.setIfInBounds_toArray, List.set_cons_zero, List.set_cons_succ]
   refine AnyE.take (i := 5) (.pointer (some ⟨rB, 0, none⟩)) rfl (by kernel_rfl) (by kernel_rfl) (by kernel_rfl) (by kernel_rfl) (fun _ _ _ h => h) (.inl ⟨by kernel_rfl, fun wy hy => by (go_simp; done)⟩) hHeld ?_
   try simp only [Act.put, List.setIfInBounds_toArray, List.set_cons_zero, List.set_cons_succ]
   refine AnyE.take (i := 6) (.pointer (some ⟨rB, 0, none⟩)) rfl (by kernel_rfl) (by kernel_rfl) (by kernel_rfl) (by kernel_rfl) (fun _ _ _ h => h) (.inl ⟨by kernel_rfl, fun wy hy => by (go_simp; done)⟩) hHeld ?_
   try simp only [Act.put, List.setIfInBounds_toArray, List.set_cons_zero, List.set_cons_succ]
   refine AnyE.take (i := 7) (.pointer (some ⟨rB, 1, none⟩)) rfl (by kernel_rfl) (by kernel_rfl) (by kernel_rfl) (by kernel_rfl) (fun _ _ _ h => h) (.inl ⟨by kernel_rfl, fun wy hy => by (go_simp; done)⟩) hHeld ?_
   try simp only [Act.put, List.setIfInBounds_toArray, List.set_cons_zero, List.set_cons_succ]
   refine AnyE.take (i := 8) (.slice (some ⟨g, 0, none⟩) n k) rfl (by kernel_rfl) (by kernel_rfl) (by kernel_rfl) (by kernel_rfl) (fun _ _ _ h => h) (.inl ⟨by kernel_rfl, fun wy hy => by (have q0 := (H3.out.1.below hy).box.cells.2.1; go_simp; done)⟩) hHeld ?_
   try simp only [Act.put, List.setIfInBounds_toArray, List.set_cons_zero, List.set_cons_succ]
   refine AnyE.take (i := 9) (.int .i64 (i : Int)) rfl (by kernel_rfl) (by kernel_rfl) (by kernel_rfl) (by kernel_rfl) (fun _ _ _ h => h) (.inl ⟨by kernel_rfl, fun wy hy => by (go_simp; done)⟩) hHeld ?_
   try simp only [Act.put, List.setIfInBounds_toArray, List.set_cons_zero, List.set_cons_succ]
   refine AnyE.take (i := 10) (.pointer (some ⟨g, i * 3, none⟩)) rfl (by kernel_rfl) (by kernel_rfl) (by kernel_rfl) (by kernel_rfl) (fun _ _ _ h => h) (.inl ⟨by kernel_rfl, fun wy hy => by (go_simp; done)⟩) hHeld ?_
   try simp only [Act.put, List.setIfInBounds_toArray, List.set_cons_zero, List.set_cons_succ]
   refine AnyE.take (i := 11) (.pointer (some ⟨g, i * 3 + 1, none⟩)) rfl (by kernel_rfl) (by kernel_rfl) (by kernel_rfl) (by kernel_rfl) (fun _ _ _ h => h) (.inl ⟨by kernel_rfl, fun wy hy => by (go_simp; done)⟩) hHeld ?_
   try simp only [Act.put, List.setIfInBounds_toArray, List.set_cons_zero, List.set_cons_succ]
   refine AnyE.take (i := 12) (.slice xa nx xc) rfl (by kernel_rfl) (by kernel_rfl) (by kernel_rfl) (by kernel_rfl) (fun _ _ _ h => h) (.inl ⟨by kernel_rfl, fun wy hy => by (have q0 := (hy.cell (p := ⟨g, i * 3 + 1, none⟩) lg).trans CX.out; go_simp; done)⟩) hHeld ?_
   try simp only [Act.put, List.setIfInBounds_toArray, List.set_cons_zero, List.set_cons_succ]
   refine AnyE.take (i := 13) (.int .i64 (nx : Int)) rfl (by kernel_rfl) (by kernel_rfl) (by kernel_rfl) (by kernel_rfl) (fun _ _ _ h => h) (.inl ⟨by kernel_rfl, fun wy hy => by (cases xa <;> go_simp; done)⟩) hHeld ?_
   try simp only [Act.put, List.setIfInBounds_toArray, List.set_cons_zero, List.set_cons_succ]
   refine AnyE.one (i := 14) rfl (by kernel_rfl) (by kernel_rfl) (fun KK hK => ?_)
   go_simp
   refine hK.out _ _ ⟨fun _ => hHeld, ?_⟩
   clear hK
   try simp only [Act.put, List.setIfInBounds_toArray, List.set_cons_zero, List.set_cons_succ]
   refine AnyE.one (i := 15) rfl (by kernel_rfl) (by kernel_rfl) (fun KK hK => ?_)
   go_simp
   refine hK.out _ _ ⟨fun _ => hHeld, ?_⟩
   clear hK
   try simp only [Act.put, List.setIfInBounds_toArray, List.set_cons_zero, List.set_cons_succ]
   refine AnyE.one (i := 16) rfl (by kernel_rfl) (by kernel_rfl) (fun KK hK => ?_)
   have z2 : Z0.frozen? ⟨g, i * 3 + 2, none⟩ = false := (HB.out.frozen (p := ⟨g, i * 3 + 2, none⟩) lg).trans (row_fz (H3.out.1.row) rfl _)
   have q2 : Z0.cell? ⟨g, i * 3 + 2, none⟩ = some (.int .i64 (xs : Int)) := (HB.out.cell (p := ⟨g, i * 3 + 2, none⟩) lg).trans CS.out
   go_simp
   refine hK.out _ _ ⟨fun h => (by cases h), ?_⟩
   clear hK
   try simp only [Act.put, List.setIfInBounds_toArray, List.set_cons_zero, List.set_cons_succ]
   refine AnyE.done (by kernel_rfl) (NoPanic.normal ?_) _
   have h5 := (H3.out.1.below HB.out).setSyn HX.out nx
   have g5 := H3.out.2.trans ((Go4.of_below (O := O) HB.out).trans (Go4.of_set (a := ⟨g, i * 3 + 2, none⟩) h5.2 (.int .i64 (nx : Int))))
   have hZ5 : ∃ z, z = Z0.setCell ⟨g, i * 3 + 2, none⟩ (.int .i64 (nx : Int)) := ⟨_, rfl⟩
   obtain ⟨Z5, hZ5⟩ := hZ5
   rw [← hZ5] at h5 g5 ⊢
   have H5 := Lib.hid (And.intro h5.1 g5)
   have HO := Lib.hid h5.1.orb
   have c4 := h5.1.box.cells.2.2.2.2.1
   have c6 := h5.1.box.cells.2.2.2.2.2.2.1
   have z4 := h5.1.box.fz 4
   have z6 := h5.1.box.fz 6
   clear h5 g5 hZ5 hHeld z2 q2
   go_simp
   go_step
   go_wp2
   go_ret
   refine ⟨rfl, O, ⟨⟨HOK.out.1.mk2 (fsOk_set HOK.out.1 HV.out (by have := HOK.out.1.tot; omega) (Nat.le_refl _)) HA1.out.1 HA1.out.2 false _, srt_names HOK.out.2 (setP_names HV.out)⟩, some ⟨g, 0, none⟩, n, k, l.set i ((x.1.1, x.1.2.1, nx), x.2), ?_, ?_⟩, H5.out.2.trans ((Go4.of_set (a := ⟨rB, 4, none⟩) HO.out _).trans (Go4.of_set (a := ⟨rB, 6, none⟩) HO.out _))⟩
   ·have := (H5.out.1.setCt 0 (by decide) (wrap64 (r.c 0 + 1))).setCt 2 (by decide) (wrap64 (r.c 2 + 1))
    rw [ct_swap (by decide)] at this
    simp only [ct_0 (c := r.c) (k := 2) (y := wrap64 (r.c 2 + 1)) (by decide)]
    exact this
   ·simp only
    rw [HI.out.1, List.map_set, HM.out.2.1, HXV.out.2, HI.out.2]
 ·have h0n : (q != 0) = true := by simp [h0]
  have hRR : R = (q, r) := by rw [HR.out, syncD, if_pos (by rw [← HQ.out]; exact h0), ← HQ.out]
  subst hRR
  go_enter Try.func58, Try.ntmps58
  go_wp2_with fail
  refine HT.out.mono ?_
  rintro e w2 ⟨rfl, rfl⟩
  go_wp2
  go_ret
  exact ⟨rfl, O, H9.out, Go4.refl _ _⟩
end Go.Proofs.Ytlkhphhmhffdjaa

namespace Go.Proofs.Ytlkhphhmhffdjaa
open Go.RowKit Go.MapKept Go.Sort
variable {w w' W X : World} {O O' : Nat → Prop} {dB rB : Nat} {d r : Dk4}
theorem bys_app4 {a b : List Nat} (ha : Bys a) (hb : Bys b) : Bys (a ++ b) := fun x hx => (List.mem_append.1 hx).elim (ha x) (hb x)
set_option maxRecDepth 100000 in
set_option maxHeartbeats 8000000 in
theorem rAppend_any {s : ByteArray} {ab : Option Addr} {nb kb : Nat} {bs : List Nat} (h : RD w O rB r) (hrd : Rd w (.slice ab nb kb) bs) : Calls Try.prog 56 #[.pointer (some ⟨rB, 0, none⟩), .string s, .slice ab nb kb] w (AnsR w O rB (appendD r s bs)) := by
 have hnb : nb = bs.length := by
  obtain ⟨_, a, c, h, _⟩ := hrd
  simp only [Value.slice.injEq] at h
  exact h.2.1
 have HNB := Lib.hid hnb
 have HRD := Lib.hid hrd
 clear hnb hrd
 have h9 := h
 obtain ⟨⟨ok, srt⟩, a, n, k, l, hm, hl⟩ := h
 have hR : ∃ R, R = appendD r s bs := ⟨_, rfl⟩
 obtain ⟨R, hR⟩ := hR
 rw [← hR]
 have hn : n = r.fs.length := by rw [← hl, List.length_map]; exact hm.row.len
 have HM := Lib.hid (And.intro hm (And.intro hl hn))
 have HOK := Lib.hid (And.intro ok srt)
 have H9 := Lib.hid h9
 unfold appendD at hR
 have hq : ∃ q, q = rdyN r.down [s] := ⟨_, rfl⟩
 obtain ⟨q, hq⟩ := hq
 have HASK := Lib.hid (rAsked_any hm s)
 rw [← hq] at HASK hR
 have HQ := Lib.hid hq
 have HR := Lib.hid hR
 clear ok srt hm hl hn h9 hq hR
 by_cases h0 : q = 0
 ·subst h0
  have hdn := rdy_dn HQ.out.symm
  have HDN := Lib.hid hdn
  clear hdn
  by_cases hbig : 67108864 < nb
  ·have i1 : (67108864 : Int) < (nb : Int) := by omega
   have hRR : R = (2, r) := by rw [HR.out, if_neg (by simp), if_pos (by rw [← HNB.out]; exact hbig)]
   subst hRR
   clear hbig
   go_enter Try.func56, Try.ntmps56
   go_wp2_with fail
   refine HASK.out.mono ?_
   rintro e w2 ⟨rfl, rfl⟩
   go_wp2
   go_ret
   exact ⟨rfl, O, H9.out, Go4.refl _ _⟩
  have i1 : ¬ (67108864 : Int) < (nb : Int) := by omega
  have HBIG := Lib.hid hbig
  clear hbig
  cases hi : idxP (l.map (·.1)) s with
  | none =>
   have e2 : idxI (l.map (·.1)) s = -1 := by unfold idxI; rw [hi]
   have hat := rAt_any HM.out.1 s
   rw [e2] at hat
   have HAT := Lib.hid hat
   have hno : atP r.fs s = none := by rw [← HM.out.2.1]; exact (idxP_none hi).1
   have hRR : R = (42, r) := by rw [HR.out, if_neg (by simp), if_neg (by rw [← HNB.out]; exact HBIG.out), hno]
   subst hRR
   clear e2 hi hat hno
   go_enter Try.func56, Try.ntmps56
   go_wp2_with fail
   refine HASK.out.mono ?_
   rintro e w2 ⟨rfl, rfl⟩
   go_wp2_with fail
   refine HAT.out.mono ?_
   rintro e w2 ⟨rfl, rfl⟩
   go_wp2
   go_ret
   exact ⟨rfl, O, H9.out, Go4.refl _ _⟩
  | some i =>
   have e2 : idxI (l.map (·.1)) s = (i : Int) := by unfold idxI; rw [hi]
   have hat := rAt_any HM.out.1 s
   rw [e2] at hat
   have HAT := Lib.hid hat
   obtain ⟨v, hi1, hi2, _⟩ := idxP_some hi
   rw [HM.out.2.1] at hi2
   have HV := Lib.hid hi2
   rw [List.getElem?_map] at hi1
   obtain ⟨x, hx, ex⟩ := Option.map_eq_some_iff.1 hi1
   have hset := setP_idx (v := (v.1 ++ bs, v.2)) hi
   rw [HM.out.2.1] at hset
   have HI := Lib.hid (And.intro hset ex)
   have HX := Lib.hid hx
   have hin : i < n := by have := (List.getElem?_eq_some_iff.1 hx).1; have := HM.out.1.row.len; omega
   have k1 : (i : Int) < (n : Int) := by omega
   have k2 : (0 : Int) ≤ (i : Int) := by omega
   have hT : ∃ T, T = totP r.fs := ⟨_, rfl⟩
   obtain ⟨T, hT⟩ := hT
   have HT0 := Lib.hid hT
   have HT1 : Hid (T ≤ 67108864 ∧ nb ≤ 67108864) := ⟨by have h1 := HOK.out.1.tot; have h2 := HOK.out.1.cap1; omega, by have := HBIG.out; omega⟩
   have hRR : R = if r.cap - (T : Int) < (nb : Int) then (4, r) else actP r true (setP r.fs (s, v.1 ++ bs, v.2)) (setCt r.c 1 (wrap64 (r.c 1 + 1))) := by rw [HR.out, if_neg (by simp), if_neg (by rw [← HNB.out]; exact HBIG.out), HV.out, hT, HNB.out]
   have HRR := Lib.hid hRR
   clear e2 hi hat hi1 hi2 hx hset ex hT hRR
   go_enter Try.func56, Try.ntmps56
   go_wp2_with fail
   refine HASK.out.mono ?_
   rintro e w2 ⟨rfl, rfl⟩
   go_wp2_with fail
   refine HAT.out.mono ?_
   rintro e w3 ⟨rfl, rfl⟩
   go_upto_region 9 with fail
   have BD : Below w3.heap.size w3 w3.drew := (Below.refl _ _).drew
   refine wp_region_noPanic ?_
   refine wp_region_anyE (S := fun wx => Below w3.heap.size w3 wx) (E := fun j => true) (by kernel_rfl) ?_
   have hHeld : Below w3.heap.size w3 w3.drew := BD
   have HB := Lib.hid BD
   have hZ0 : ∃ z, z = w3.drew := ⟨_, rfl⟩
   obtain ⟨Z0, hZ0⟩ := hZ0
   rw [← hZ0] at HB hHeld ⊢
   clear hZ0 BD
   refine AnyE.take (i := 0) (.pointer (some ⟨rB, 0, none⟩)) rfl (by kernel_rfl) (by kernel_rfl) (by kernel_rfl) (by kernel_rfl) (fun _ _ _ h => h) (.inl ⟨by kernel_rfl, fun wy hy => by (go_simp; done)⟩) hHeld ?_
   try simp only [Act.put, List.setIfInBounds_toArray, List.set_cons_zero, List.set_cons_succ]
   refine AnyE.take (i := 2) (.slice ab nb kb) rfl (by kernel_rfl) (by kernel_rfl) (by kernel_rfl) (by kernel_rfl) (fun _ _ _ h => h) (.inl ⟨by kernel_rfl, fun wy hy => by (go_simp; done)⟩) hHeld ?_
   try simp only [Act.put, List.setIfInBounds_toArray, List.set_cons_zero, List.set_cons_succ]
   refine AnyE.take (i := 3) (.int .i64 (nb : Int)) rfl (by kernel_rfl) (by kernel_rfl) (by kernel_rfl) (by kernel_rfl) (fun _ _ _ h => h) (.inl ⟨by kernel_rfl, fun wy hy => by (cases ab <;> go_simp; done)⟩) hHeld ?_
   try simp only [Act.put, List.setIfInBounds_toArray, List.set_cons_zero, List.set_cons_succ]
   refine AnyE.take (i := 5) (.pointer (some ⟨rB, 0, none⟩)) rfl (by kernel_rfl) (by kernel_rfl) (by kernel_rfl) (by kernel_rfl) (fun _ _ _ h => h) (.inl ⟨by kernel_rfl, fun wy hy => by (go_simp; done)⟩) hHeld ?_
   try simp only [Act.put, List.setIfInBounds_toArray, List.set_cons_zero, List.set_cons_succ]
   refine AnyE.take (i := 6) (.pointer (some ⟨rB, 0, none⟩)) rfl (by kernel_rfl) (by kernel_rfl) (by kernel_rfl) (by kernel_rfl) (fun _ _ _ h => h) (.inl ⟨by kernel_rfl, fun wy hy => by (go_simp; done)⟩) hHeld ?_
   try simp only [Act.put, List.setIfInBounds_toArray, List.set_cons_zero, List.set_cons_succ]
   refine AnyE.take (i := 7) (.pointer (some ⟨rB, 0, none⟩)) rfl (by kernel_rfl) (by kernel_rfl) (by kernel_rfl) (by kernel_rfl) (fun _ _ _ h => h) (.inl ⟨by kernel_rfl, fun wy hy => by (go_simp; done)⟩) hHeld ?_
   try simp only [Act.put, List.setIfInBounds_toArray, List.set_cons_zero, List.set_cons_succ]
   refine AnyE.take (i := 8) (.int .i64 r.cap) rfl (by kernel_rfl) (by kernel_rfl) (by kernel_rfl) (by kernel_rfl) (fun _ _ _ h => h) (.inl ⟨by kernel_rfl, fun wy hy => by (have q0 := (HM.out.1.below hy).box.cells.1; go_simp; done)⟩) hHeld ?_
   try simp only [Act.put, List.setIfInBounds_toArray, List.set_cons_zero, List.set_cons_succ]
   refine AnyE.one (i := 1) rfl (by kernel_rfl) (by kernel_rfl) (fun KK hK => ?_)
   go_simp
   go_at_call 36
   have hus := rUsed_any (HM.out.1.below HB.out) (by rw [HM.out.2.1]; have h1 := HOK.out.1.tot; have h2 := HOK.out.1.cap1; omega)
   rw [HM.out.2.1, ← HT0.out] at hus
   refine hus.mono ?_
   rintro e9 Z1 ⟨rfl, hz1⟩
   rw [hz1] at *
   clear hz1 hus
   go_wp2_with fail
   refine hK.out _ _ ⟨fun _ => hHeld, ?_⟩
   clear hK
   try simp only [Act.put, List.setIfInBounds_toArray, List.set_cons_zero, List.set_cons_succ]
   refine AnyE.take (i := 4) (.int .i64 ((T : Int) + (nb : Int))) rfl (by kernel_rfl) (by kernel_rfl) (by kernel_rfl) (by kernel_rfl) (fun _ _ _ h => h) (.inl ⟨by kernel_rfl, fun wy hy => by (have q0 := HT1.out; go_simp; exact IntWalk.i64_in _ ⟨by omega, by omega⟩)⟩) hHeld ?_
   try simp only [Act.put, List.setIfInBounds_toArray, List.set_cons_zero, List.set_cons_succ]
   by_cases hfull : r.cap < (T : Int) + (nb : Int)
   ·have hRR : R = (4, r) := by rw [HRR.out, if_pos (by omega)]
    subst hRR
    refine AnyE.take (i := 9) (.bool true) rfl (by kernel_rfl) (by kernel_rfl) (by kernel_rfl) (by kernel_rfl) (fun _ _ _ h => h) (.inl ⟨by kernel_rfl, fun wy hy => by (go_simp; done)⟩) hHeld ?_
    try simp only [Act.put, List.setIfInBounds_toArray, List.set_cons_zero, List.set_cons_succ]
    refine AnyE.done (by kernel_rfl) (NoPanic.normal ?_) _
    clear hHeld
    go_simp
    go_step
    go_wp2
    go_ret
    exact ⟨rfl, O, H9.out.below HB.out, Go4.of_below HB.out⟩
   ·have hRR := HRR.out
    rw [if_neg (by omega)] at hRR
    have HRR := Lib.hid hRR
    have HFULL := Lib.hid hfull
    refine AnyE.take (i := 9) (.bool false) rfl (by kernel_rfl) (by kernel_rfl) (by kernel_rfl) (by kernel_rfl) (fun _ _ _ h => h) (.inl ⟨by kernel_rfl, fun wy hy => by (go_simp; done)⟩) hHeld ?_
    try simp only [Act.put, List.setIfInBounds_toArray, List.set_cons_zero, List.set_cons_succ]
    refine AnyE.done (by kernel_rfl) (NoPanic.normal ?_) _
    clear hHeld
    clear hRR hfull
    obtain ⟨Z9, hZ9⟩ : ∃ z, z = Z0 := ⟨_, rfl⟩
    rw [← hZ9] at HB ⊢
    clear hZ9
    go_simp
    go_step
    go_upto_region 11 with fail
    have HW9 := Lib.hid HB.out
    have HM9 := Lib.hid (HM.out.1.below HB.out)
    have hat2 := HM9.out.row.at_ HX.out
    obtain ⟨g, hag, _, cx0, cx1, cx2⟩ := hat2
    subst hag
    have lg := World.block_lt_of_cell? _ _ cx0
    simp only at lg
    obtain ⟨xa, xc, hxv⟩ := (HM9.out.dat x (List.mem_of_getElem? HX.out)).form
    have hnx : ∃ nx, nx = x.1.2.1.length := ⟨_, rfl⟩
    obtain ⟨nx, hnx⟩ := hnx
    have hxs : ∃ xs, xs = x.1.2.2 := ⟨_, rfl⟩
    obtain ⟨xs, hxs⟩ := hxs
    rw [hxv, ← hnx] at cx1
    rw [← hnx] at hxv
    rw [← hxs] at cx2
    have CX := Lib.hid cx1
    have CS := Lib.hid cx2
    have HXV := Lib.hid (And.intro hxv hnx)
    clear cx0 cx1 cx2 hxv hnx hxs
    have HMB := Lib.hid HM9.out.box.cells.2.1
    have HNX : Hid (nx ≤ 67108864) := by
     have h1 := totP_mem (atP_of_mem HOK.out.1.nod (show (x.1.1, x.1.2) ∈ r.fs from (by rw [← HM.out.2.1]; exact List.mem_map.2 ⟨x, List.mem_of_getElem? HX.out, rfl⟩)))
     have h2 := HXV.out.2
     have h3 := HT0.out
     have h4 := HT1.out
     unfold Hid
     omega
    clear HB
    have BD : Below Z9.heap.size Z9 Z9.drew := (Below.refl _ _).drew
    refine wp_region_noPanic ?_
    refine wp_region_anyE (S := fun wx => wx.heap[rB]? = Z9.heap[rB]? ∧ wx.heap[g]? = Z9.heap[g]?) (E := fun j => !(decide (j = 17))) (by kernel_rfl) ?_
    have hHeld : Z9.drew.heap[rB]? = Z9.heap[rB]? ∧ Z9.drew.heap[g]? = Z9.heap[g]? := ⟨rfl, rfl⟩
    have HB := Lib.hid BD
    have hZ0 : ∃ z, z = Z9.drew := ⟨_, rfl⟩
    obtain ⟨Z0, hZ0⟩ := hZ0
    rw [← hZ0] at HB hHeld ⊢
    clear hZ0 BD
    refine AnyE.take (i := 0) (.pointer (some ⟨rB, 0, none⟩)) rfl (by kernel_rfl) (by kernel_rfl) (by kernel_rfl) (by kernel_rfl) (fun _ _ _ h => h) (.inl ⟨by kernel_rfl, fun wy hy => by (go_simp; done)⟩) hHeld ?_
    try simp only [Act.put, List.setIfInBounds_toArray, List.set_cons_zero, List.set_cons_succ]
    refine AnyE.take (i := 1) (.pointer (some ⟨rB, 0, none⟩)) rfl (by kernel_rfl) (by kernel_rfl) (by kernel_rfl) (by kernel_rfl) (fun _ _ _ h => h) (.inl ⟨by kernel_rfl, fun wy hy => by (go_simp; done)⟩) hHeld ?_
    try simp only [Act.put, List.setIfInBounds_toArray, List.set_cons_zero, List.set_cons_succ]
    refine AnyE.take (i := 2) (.pointer (some ⟨rB, 1, none⟩)) rfl (by kernel_rfl) (by kernel_rfl) (by kernel_rfl) (by kernel_rfl) (fun _ _ _ h => h) (.inl ⟨by kernel_rfl, fun wy hy => by (go_simp; done)⟩) hHeld ?_
    try simp only [Act.put, List.setIfInBounds_toArray, List.set_cons_zero, List.set_cons_succ]
    refine AnyE.take (i := 3) (.slice (some ⟨g, 0, none⟩) n k) rfl (by kernel_rfl) (by kernel_rfl) (by kernel_rfl) (by kernel_rfl) (fun _ _ _ h => h) (.inl ⟨by kernel_rfl, fun wy hy => by (have q0 := (World.cell?_of_block (a := ⟨rB, 1, none⟩) hy.1).trans HMB.out; go_simp; done)⟩) hHeld ?_
    try simp only [Act.put, List.setIfInBounds_toArray, List.set_cons_zero, List.set_cons_succ]
    refine AnyE.take (i := 4) (.int .i64 (i : Int)) rfl (by kernel_rfl) (by kernel_rfl) (by kernel_rfl) (by kernel_rfl) (fun _ _ _ h => h) (.inl ⟨by kernel_rfl, fun wy hy => by (go_simp; done)⟩) hHeld ?_
    try simp only [Act.put, List.setIfInBounds_toArray, List.set_cons_zero, List.set_cons_succ]
    refine AnyE.take (i := 5) (.pointer (some ⟨rB, 0, none⟩)) rfl (by kernel_rfl) (by kernel_rfl) (by kernel_rfl) (by kernel_rfl) (fun _ _ _ h => h) (.inl ⟨by kernel_rfl, fun wy hy => by (go_simp; done)⟩) hHeld ?_
    try simp only [Act.put, List.setIfInBounds_toArray, List.set_cons_zero, List.set_cons_succ]
    refine AnyE.take (i := 6) (.pointer (some ⟨rB, 0, none⟩)) rfl (by kernel_rfl) (by kernel_rfl) (by kernel_rfl) (by kernel_rfl) (fun _ _ _ h => h) (.inl ⟨by kernel_rfl, fun wy hy => by (go_simp; done)⟩) hHeld ?_
    try simp only [Act.put, List.setIfInBounds_toArray, List.set_cons_zero, List.set_cons_succ]
    refine AnyE.take (i := 7) (.pointer (some ⟨rB, 1, none⟩)) rfl (by kernel_rfl) (by kernel_rfl) (by kernel_rfl) (by kernel_rfl) (fun _ _ _ h => h) (.inl ⟨by kernel_rfl, fun wy hy => by (go_simp; done)⟩) hHeld ?_
    try simp only [Act.put, List.setIfInBounds_toArray, List.set_cons_zero, List.set_cons_succ]
    refine AnyE.take (i := 8) (.slice (some ⟨g, 0, none⟩) n k) rfl (by kernel_rfl) (by kernel_rfl) (by kernel_rfl) (by kernel_rfl) (fun _ _ _ h => h) (.inl ⟨by kernel_rfl, fun wy hy => by (have q0 := (World.cell?_of_block (a := ⟨rB, 1, none⟩) hy.1).trans HMB.out; go_simp; done)⟩) hHeld ?_
    try simp only [Act.put, List.setIfInBounds_toArray, List.set_cons_zero, List.set_cons_succ]
    refine AnyE.take (i := 9) (.int .i64 (i : Int)) rfl (by kernel_rfl) (by kernel_rfl) (by kernel_rfl) (by kernel_rfl) (fun _ _ _ h => h) (.inl ⟨by kernel_rfl, fun wy hy => by (go_simp; done)⟩) hHeld ?_
    try simp only [Act.put, List.setIfInBounds_toArray, List.set_cons_zero, List.set_cons_succ]
    refine AnyE.take (i := 10) (.pointer (some ⟨g, i * 3, none⟩)) rfl (by kernel_rfl) (by kernel_rfl) (by kernel_rfl) (by kernel_rfl) (fun _ _ _ h => h) (.inl ⟨by kernel_rfl, fun wy hy => by (go_simp; done)⟩) hHeld ?_
    try simp only [Act.put, List.setIfInBounds_toArray, List.set_cons_zero, List.set_cons_succ]
    refine AnyE.take (i := 11) (.pointer (some ⟨g, i * 3 + 1, none⟩)) rfl (by kernel_rfl) (by kernel_rfl) (by kernel_rfl) (by kernel_rfl) (fun _ _ _ h => h) (.inl ⟨by kernel_rfl, fun wy hy => by (go_simp; done)⟩) hHeld ?_
    try simp only [Act.put, List.setIfInBounds_toArray, List.set_cons_zero, List.set_cons_succ]
    refine AnyE.take (i := 12) (.slice xa nx xc) rfl (by kernel_rfl) (by kernel_rfl) (by kernel_rfl) (by kernel_rfl) (fun _ _ _ h => h) (.inl ⟨by kernel_rfl, fun wy hy => by (have q0 := (World.cell?_of_block (a := ⟨g, i * 3 + 1, none⟩) hy.2).trans CX.out; go_simp; done)⟩) hHeld ?_
    try simp only [Act.put, List.setIfInBounds_toArray, List.set_cons_zero, List.set_cons_succ]
    refine AnyE.take (i := 13) (.slice ab nb kb) rfl (by kernel_rfl) (by kernel_rfl) (by kernel_rfl) (by kernel_rfl) (fun _ _ _ h => h) (.inl ⟨by kernel_rfl, fun wy hy => by (go_simp; done)⟩) hHeld ?_
    try simp only [Act.put, List.setIfInBounds_toArray, List.set_cons_zero, List.set_cons_succ]
    refine AnyE.one (i := 14) rfl (by kernel_rfl) (by kernel_rfl) (fun KK hK => ?_)
    have hM0 := HM9.out.below HB.out
    have HM0 := Lib.hid hM0
    have hown : Own Z0 0 (.slice xa nx xc) nx x.1.2.1 := by
     have h1 := (hM0.dat x (List.mem_of_getElem? HX.out)).own
     rw [HXV.out.1, ← HXV.out.2] at h1
     exact ⟨HXV.out.2, h1⟩
    clear hM0
    have hrd9 := (HRD.out.later HW9.out).later HB.out
    have hbd9 : nx + bs.length ≤ 140737488355328 := by have h1 := HT1.out; have h2 := HNB.out; have h3 := HNX.out; omega
    simp only [List.getElem_toArray, List.getElem_cons_succ, List.getElem_cons_zero, Act.put, List.setIfInBounds_toArray, List.set_cons_zero, List.set_cons_succ]
    refine dstep_append (.tmp 45) (.tmp 46) rfl (B := 0) (n := nx) (v := .slice xa nx xc) (src := .slice ab nb kb) (xs := x.1.2.1) (bs := bs) rfl hown rfl hrd9 hbd9 (Nat.zero_le _) (fun a4 k4 X4 own4 gr4 lo4 => ?_)
    clear hrd9 hbd9
    have hn4 : ∃ n4, n4 = nx + bs.length := ⟨_, rfl⟩
    obtain ⟨n4, hn4⟩ := hn4
    rw [← hn4] at own4 lo4 ⊢
    have HN4 := Lib.hid hn4
    clear hn4
    have hgX : g ≠ rB ∧ ∀ y ∈ l, y.2.ownBlock ≠ some g := HM0.out.neRow (g := g) rfl
    have hng : (Value.slice xa nx xc).ownBlock ≠ some g := by rw [← HXV.out.1]; exact hgX.2 x (List.mem_of_getElem? HX.out)
    have hnr : (Value.slice xa nx xc).ownBlock ≠ some rB := fun e => HM0.out.neDat (List.mem_of_getElem? HX.out) (by rw [HXV.out.1]; exact e) rfl
    have lr := HM0.out.lt rB HM0.out.orb
    have lgZ := HM0.out.lt g (HM0.out.rowO g rfl)
    have hHeld : X4.heap[rB]? = Z9.heap[rB]? ∧ X4.heap[g]? = Z9.heap[g]? := ⟨(gr4.block rB lr (Ne.symm hnr)).trans hHeld.1, (gr4.block g lgZ (Ne.symm hng)).trans hHeld.2⟩
    have szX := gr4.size
    have ho : OwnO X4 (fun j => O j ∨ (Z0.heap.size ≤ j ∧ j < X4.heap.size)) (.slice a4 n4 k4) (x.1.2.1 ++ bs) := by
     have o4 := OwnO.of_row own4.own (bys_app4 (HM0.out.dat x (List.mem_of_getElem? HX.out)).bys HRD.out.1)
     refine ⟨o4.own, o4.bys, fun q hq => ?_⟩
     rcases lo4 q hq with z | z
     ·exact .inl ((HM0.out.dat x (List.mem_of_getElem? HX.out)).blk q (by rw [HXV.out.1]; exact z))
     ·exact .inr ⟨by omega, (o4.blk q hq).2⟩
    have hsd := HM0.out.setDat (i := i) HX.out (by rw [HXV.out.1]; exact gr4) ho (fun q hq => by rw [HXV.out.1]; exact (lo4 q hq).imp id (fun z => by omega)) szX
    have HSD := Lib.hid hsd
    have z2 : X4.frozen? ⟨g, i * 3 + 1, none⟩ = false := (World.frozen?_of_block (a := ⟨g, i * 3 + 1, none⟩) hHeld.2).trans (row_fz HM9.out.row rfl _)
    have q2 : X4.cell? ⟨g, i * 3 + 1, none⟩ = some (.slice xa nx xc) := (World.cell?_of_block (a := ⟨g, i * 3 + 1, none⟩) hHeld.2).trans CX.out
    clear own4 gr4 lo4 ho hsd szX lr lgZ hng hnr hgX hown
    refine hK.out _ _ ⟨fun _ => hHeld, ?_⟩
    clear hK
    try simp only [Act.put, List.setIfInBounds_toArray, List.set_cons_zero, List.set_cons_succ]
    refine AnyE.one (i := 15) rfl (by kernel_rfl) (by kernel_rfl) (fun KK hK => ?_)
    go_simp
    refine hK.out _ _ ⟨fun _ => hHeld, ?_⟩
    clear hK
    try simp only [Act.put, List.setIfInBounds_toArray, List.set_cons_zero, List.set_cons_succ]
    refine AnyE.one (i := 16) rfl (by kernel_rfl) (by kernel_rfl) (fun KK hK => ?_)
    go_simp
    refine hK.out _ _ ⟨fun _ => hHeld, ?_⟩
    clear hK
    try simp only [Act.put, List.setIfInBounds_toArray, List.set_cons_zero, List.set_cons_succ]
    refine AnyE.one (i := 17) rfl (by kernel_rfl) (by kernel_rfl) (fun KK hK => ?_)
    go_simp
    refine hK.out _ _ ⟨fun h => (by cases h), ?_⟩
    clear hK
    try simp only [Act.put, List.setIfInBounds_toArray, List.set_cons_zero, List.set_cons_succ]
    refine AnyE.done (by kernel_rfl) (NoPanic.normal ?_) _
    have hZ5 : ∃ z, z = X4.setCell ⟨g, i * 3 + 1, none⟩ (.slice a4 n4 k4) := ⟨_, rfl⟩
    obtain ⟨Z5, hZ5⟩ := hZ5
    rw [← hZ5] at HSD ⊢
    have hO5 : ∃ O5 : Nat → Prop, O5 = fun j => O j ∨ (Z0.heap.size ≤ j ∧ j < X4.heap.size) := ⟨_, rfl⟩
    obtain ⟨O5, hO5⟩ := hO5
    rw [← hO5] at HSD
    have H5 := Lib.hid (And.intro HSD.out.1 ((Go4.of_below (O := O) (HW9.out.trans (HB.out.mono HW9.out.size))).trans HSD.out.2.2))
    have HO := Lib.hid H5.out.1.orb
    have c4 := H5.out.1.box.cells.2.2.2.2.1
    have c5 := H5.out.1.box.cells.2.2.2.2.2.1
    have z4 := H5.out.1.box.fz 4
    have z5 := H5.out.1.box.fz 5
    clear hZ5 hO5 hHeld z2 q2
    go_simp
    go_step
    go_wp2_with fail
    have hC5 := (H5.out.1.setCt 0 (by decide) (wrap64 (r.c 0 + 1))).setCt 1 (by decide) (wrap64 (r.c 1 + 1))
    rw [ct_swap (by decide)] at hC5
    have g7 := H5.out.2.trans ((Go4.of_set (a := ⟨rB, 4, none⟩) HO.out (.int .i64 (wrap64 (r.c 0 + 1)))).trans (Go4.of_set (a := ⟨rB, 5, none⟩) HO.out (.int .i64 (wrap64 (r.c 1 + 1)))))
    have hmap : (l.set i ((x.1.1, x.1.2.1 ++ bs, x.1.2.2), Value.slice a4 n4 k4)).map (·.1) = setP r.fs (s, v.1 ++ bs, v.2) := by
     rw [HI.out.1, List.map_set, HM.out.2.1, HI.out.2]
    have hok : FsOk r.cap (setP r.fs (s, v.1 ++ bs, v.2)) := fsOk_set HOK.out.1 HV.out (by have h1 := HFULL.out; have h2 := HT0.out; have h3 := HNB.out; have h4 := HOK.out.1.cap0; rw [List.length_append]; omega) (by have := HOK.out.1.syn (s, v) (atP_mem4 HV.out); rw [List.length_append]; simp only at this; omega)
    have hsrt : Srt (setP r.fs (s, v.1 ++ bs, v.2)) := srt_names HOK.out.2 (setP_names HV.out)
    have HF := Lib.hid (And.intro hmap (And.intro hok hsrt))
    have hW7 : ∃ z, z = (Z5.setCell ⟨rB, 4, none⟩ (.int .i64 (wrap64 (r.c 0 + 1)))).setCell ⟨rB, 5, none⟩ (.int .i64 (wrap64 (r.c 1 + 1))) := ⟨_, rfl⟩
    obtain ⟨W7, hW7⟩ := hW7
    rw [← hW7] at hC5 g7 ⊢
    have H7 := Lib.hid (And.intro hC5 g7)
    clear hC5 g7 hW7 hmap hok hsrt c4 c5 z4 z5
    by_cases ha : r.arm = 1
    ·have hRR := HRR.out
     rw [actP_1 ha, if_pos rfl] at hRR
     have hla := rLast_any H7.out.1 HOK.out.1.arm0 HOK.out.1.arm1
     rw [ha, lastP_1] at hla
     have HLA := Lib.hid hla
     subst hRR
     clear ha hla
     refine HLA.out.mono ?_
     rintro e w8 ⟨rfl, h3, g3⟩
     have H3 := Lib.hid (And.intro h3 g3)
     clear h3 g3
     go_wp2
     go_ret
     refine ⟨rfl, O5, ⟨⟨HOK.out.1.mk2 HF.out.2.1 (by decide) (by decide) true _, HF.out.2.2⟩, some ⟨g, 0, none⟩, n, k, l.set i ((x.1.1, x.1.2.1 ++ bs, x.1.2.2), Value.slice a4 n4 k4), ?_, HF.out.1⟩, H7.out.2.trans H3.out.2⟩
     simp only [ct_0 (c := r.c) (k := 1) (y := wrap64 (r.c 1 + 1)) (by decide)]
     exact H3.out.1
    ·have hRR := HRR.out
     have hA1 : ∃ A1, A1 = if 0 < r.arm then r.arm - 1 else 0 := ⟨_, rfl⟩
     obtain ⟨A1, hA1⟩ := hA1
     have hl2 := actP_n (torn := true) (f := setP r.fs (s, v.1 ++ bs, v.2)) (x := setCt r.c 1 (wrap64 (r.c 1 + 1))) ha HOK.out.1.arm0 HDN.out
     rw [← hA1] at hl2
     rw [hl2.2] at hRR
     have HLAST := Lib.hid (And.intro hl2.1 (And.intro ha hA1))
     have HA1 : Hid (0 ≤ A1 ∧ A1 ≤ 9223372036854775807) := by
      have h0 := HOK.out.1.arm0
      have h1 := HOK.out.1.arm1
      rw [hA1]
      unfold Hid
      split <;> omega
     subst hRR
     clear hA1 hl2 ha
     have hla := rLast_any H7.out.1 HOK.out.1.arm0 HOK.out.1.arm1
     rw [HLAST.out.1] at hla
     have HLA := Lib.hid hla
     clear hla
     refine HLA.out.mono ?_
     rintro e w8 ⟨rfl, h3, g3⟩
     have H3 := Lib.hid (And.intro h3 g3)
     clear h3 g3
     go_wp2
     go_ret
     refine ⟨rfl, O5, ⟨⟨HOK.out.1.mk2 HF.out.2.1 HA1.out.1 HA1.out.2 false _, HF.out.2.2⟩, some ⟨g, 0, none⟩, n, k, l.set i ((x.1.1, x.1.2.1 ++ bs, x.1.2.2), Value.slice a4 n4 k4), ?_, HF.out.1⟩, H7.out.2.trans H3.out.2⟩
     simp only [ct_0 (c := r.c) (k := 1) (y := wrap64 (r.c 1 + 1)) (by decide)]
     exact H3.out.1
 ·have h0n : (q != 0) = true := by simp [h0]
  have hRR : R = (q, r) := by rw [HR.out, if_pos h0]
  subst hRR
  go_enter Try.func56, Try.ntmps56
  go_wp2_with fail
  refine HASK.out.mono ?_
  rintro e w2 ⟨rfl, rfl⟩
  go_wp2
  go_ret
  exact ⟨rfl, O, H9.out, Go4.refl _ _⟩
end Go.Proofs.Ytlkhphhmhffdjaa
