import Derived.Test.YtlkhphhmhffdjaaK12
set_option linter.unusedSimpArgs false
set_option linter.unusedVariables false
namespace Go.Proofs.Ytlkhphhmhffdjaa
open Go.RowKit Go.MapKept Go.Sort
variable {w w' W X : World} {O O' : Nat → Prop} {dB rB : Nat} {d r : Dk4}
def szR4 (d : Dk4) (s : ByteArray) : Int × Int := if reaE d s ≠ 0 then (0, reaE d s) else ((((atP d.fs s).getD ([], 0)).1.length : Int), 0)
set_option maxRecDepth 100000 in
set_option maxHeartbeats 8000000 in
theorem rSize_any {s : ByteArray} (h : RD w O rB r) : Calls Try.prog 70 #[.pointer (some ⟨rB, 0, none⟩), .string s] w fun e w' => e = .returned (.tuple #[.int .i64 (szR4 r s).1, .int .i64 (szR4 r s).2]) ∧ Below w.heap.size w w' := by
 have h9 := h
 obtain ⟨⟨ok, srt⟩, a, n, k, l, hm, hl⟩ := h
 have hR : ∃ R, R = szR4 r s := ⟨_, rfl⟩
 obtain ⟨R, hR⟩ := hR
 rw [← hR]
 unfold szR4 at hR
 have hn : n = r.fs.length := by rw [← hl, List.length_map]; exact hm.row.len
 have HM := Lib.hid (And.intro hm (And.intro hl hn))
 have HOK := Lib.hid (And.intro ok srt)
 have H9 := Lib.hid h9
 have hth := rThere_any hm s
 rw [hl] at hth
 have hq : ∃ q, q = reaE r s := ⟨_, rfl⟩
 obtain ⟨q, hq⟩ := hq
 have hth2 : Calls Try.prog 51 #[.pointer (some ⟨rB, 0, none⟩), .string s] w fun e w' => e = .returned (.int .i64 q) ∧ w' = w := by rw [hq]; exact hth
 have HT := Lib.hid hth2
 have HQ := Lib.hid hq
 have HR := Lib.hid hR
 clear ok srt hm hl hn h9 hth hth2 hq hR
 by_cases h0 : q = 0
 ·subst h0
  have hsome := rea_some4 HQ.out.symm
  obtain ⟨v, hv⟩ := hsome
  have hdn := rdy_dn (rea_rdy4 HQ.out.symm)
  have HV := Lib.hid hv
  have HDN := Lib.hid hdn
  clear hv hdn
  have hRR : R = ((v.1.length : Int), 0) := by rw [HR.out, if_neg (by rw [← HQ.out]; simp), HV.out]; rfl
  subst hRR
  have hidx : ∃ i, idxP (l.map (·.1)) s = some i := by
   cases hi : idxP (l.map (·.1)) s with
   | some i => exact ⟨i, rfl⟩
   | none =>
    have := (idxP_none hi).1
    rw [HM.out.2.1, HV.out] at this
    cases this
  obtain ⟨i, hi⟩ := hidx
  have e2 : idxI (l.map (·.1)) s = (i : Int) := by unfold idxI; rw [hi]
  obtain ⟨v2, hi1, hi2, _⟩ := idxP_some hi
  rw [HM.out.2.1, HV.out] at hi2
  cases hi2
  rw [List.getElem?_map] at hi1
  obtain ⟨x, hx, ex⟩ := Option.map_eq_some_iff.1 hi1
  have hset := setP_idx (v := (v.1, v.1.length)) hi
  rw [HM.out.2.1] at hset
  have HI := Lib.hid (And.intro hset ex)
  have HX := Lib.hid hx
  have hin : i < n := by have := (List.getElem?_eq_some_iff.1 hx).1; have := HM.out.1.row.len; omega
  have i1 : (i : Int) < (n : Int) := by omega
  have i2 : (0 : Int) ≤ (i : Int) := by omega
  clear hi hi1 hset hx
  have E2 := Lib.hid e2
  have hvx : v = (x.1.2.1, x.1.2.2) := by rw [HI.out.2]
  have HVX := Lib.hid hvx
  clear e2 hvx
  have hat2 := HM.out.1.row.at_ HX.out
  obtain ⟨g, hag, _, cx0, cx1, cx2⟩ := hat2
  subst hag
  have lg := World.block_lt_of_cell? _ _ cx0
  simp only at lg
  obtain ⟨xa, xc, hxv⟩ := (HM.out.1.dat x (List.mem_of_getElem? HX.out)).form
  have hnx : ∃ nx, nx = x.1.2.1.length := ⟨_, rfl⟩
  obtain ⟨nx, hnx⟩ := hnx
  have hxs : ∃ xs, xs = x.1.2.2 := ⟨_, rfl⟩
  obtain ⟨xs, hxs⟩ := hxs
  rw [hxv, ← hnx] at cx1
  rw [← hnx] at hxv
  rw [← hxs] at cx2
  have CX := Lib.hid cx1
  have CS := Lib.hid cx2
  have HXV := Lib.hid (And.intro hxv hnx)
  clear cx0 cx1 cx2 hxv hnx hxs
  have hvl : (v.1.length : Int) = (nx : Int) := by rw [HVX.out, HXV.out.2]
  rw [hvl]
  clear hvl
  go_enter Try.func70, Try.ntmps70
  go_wp2_with fail
  refine HT.out.mono ?_
  rintro e w3 ⟨rfl, rfl⟩
  go_upto_region 4 with fail
  have BD : Below w3.heap.size w3 w3.drew := (Below.refl _ _).drew
  refine wp_region_noPanic ?_
  refine wp_region_anyE (S := fun wx => Below w3.heap.size w3 wx) (E := fun j => true) (by kernel_rfl) ?_
  have hHeld : Below w3.heap.size w3 w3.drew := BD
  have HB := Lib.hid BD
  have hZ0 : ∃ z, z = w3.drew := ⟨_, rfl⟩
  obtain ⟨Z0, hZ0⟩ := hZ0
  rw [← hZ0] at HB hHeld ⊢
  clear hZ0 BD
  refine AnyE.take (i := 0) (.pointer (some ⟨rB, 0, none⟩)) rfl (by kernel_rfl) (by kernel_rfl) (by kernel_rfl) (by kernel_rfl) (fun _ _ _ h => h) (.inl ⟨by kernel_rfl, fun wy hy => by (go_simp; done)⟩) hHeld ?_
  try simp only [Act.put, List.setIfInBounds_toArray, List.set_cons_zero, List.set_cons_succ]
  refine AnyE.take (i := 1) (.pointer (some ⟨rB, 0, none⟩)) rfl (by kernel_rfl) (by kernel_rfl) (by kernel_rfl) (by kernel_rfl) (fun _ _ _ h => h) (.inl ⟨by kernel_rfl, fun wy hy => by (go_simp; done)⟩) hHeld ?_
  try simp only [Act.put, List.setIfInBounds_toArray, List.set_cons_zero, List.set_cons_succ]
  refine AnyE.take (i := 2) (.pointer (some ⟨rB, 1, none⟩)) rfl (by kernel_rfl) (by kernel_rfl) (by kernel_rfl) (by kernel_rfl) (fun _ _ _ h => h) (.inl ⟨by kernel_rfl, fun wy hy => by (go_simp; done)⟩) hHeld ?_
  try simp only [Act.put, List.setIfInBounds_toArray, List.set_cons_zero, List.set_cons_succ]
  refine AnyE.take (i := 3) (.slice (some ⟨g, 0, none⟩) n k) rfl (by kernel_rfl) (by kernel_rfl) (by kernel_rfl) (by kernel_rfl) (fun _ _ _ h => h) (.inl ⟨by kernel_rfl, fun wy hy => by (have q0 := (HM.out.1.below hy).box.cells.2.1; go_simp; done)⟩) hHeld ?_
  try simp only [Act.put, List.setIfInBounds_toArray, List.set_cons_zero, List.set_cons_succ]
  refine AnyE.take (i := 4) (.pointer (some ⟨rB, 0, none⟩)) rfl (by kernel_rfl) (by kernel_rfl) (by kernel_rfl) (by kernel_rfl) (fun _ _ _ h => h) (.inl ⟨by kernel_rfl, fun wy hy => by (go_simp; done)⟩) hHeld ?_
  try simp only [Act.put, List.setIfInBounds_toArray, List.set_cons_zero, List.set_cons_succ]
  refine AnyE.take (i := 5) (.string s) rfl (by kernel_rfl) (by kernel_rfl) (by kernel_rfl) (by kernel_rfl) (fun _ _ _ h => h) (.inl ⟨by kernel_rfl, fun wy hy => by (go_simp; done)⟩) hHeld ?_
  try simp only [Act.put, List.setIfInBounds_toArray, List.set_cons_zero, List.set_cons_succ]
  refine AnyE.one (i := 6) rfl (by kernel_rfl) (by kernel_rfl) (fun KK hK => ?_)
  have hat := rAt_any (HM.out.1.below HB.out) s
  rw [E2.out] at hat
  have HAT := Lib.hid hat
  clear hat
  go_simp
  go_at_call 41
  refine HAT.out.mono ?_
  rintro e9 Z1 ⟨rfl, hz1⟩
  rw [hz1] at *
  clear hz1 HAT
  go_wp2_with fail
  refine hK.out _ _ ⟨fun _ => hHeld, ?_⟩
  clear hK
  try simp only [Act.put, List.setIfInBounds_toArray, List.set_cons_zero, List.set_cons_succ]
  refine AnyE.take (i := 7) (.pointer (some ⟨g, i * 3, none⟩)) rfl (by kernel_rfl) (by kernel_rfl) (by kernel_rfl) (by kernel_rfl) (fun _ _ _ h => h) (.inl ⟨by kernel_rfl, fun wy hy => by (go_simp; done)⟩) hHeld ?_
  try simp only [Act.put, List.setIfInBounds_toArray, List.set_cons_zero, List.set_cons_succ]
  refine AnyE.take (i := 8) (.pointer (some ⟨g, i * 3 + 1, none⟩)) rfl (by kernel_rfl) (by kernel_rfl) (by kernel_rfl) (by kernel_rfl) (fun _ _ _ h => h) (.inl ⟨by kernel_rfl, fun wy hy => by (go_simp; done)⟩) hHeld ?_
  try simp only [Act.put, List.setIfInBounds_toArray, List.set_cons_zero, List.set_cons_succ]
  refine AnyE.take (i := 9) (.slice xa nx xc) rfl (by kernel_rfl) (by kernel_rfl) (by kernel_rfl) (by kernel_rfl) (fun _ _ _ h => h) (.inl ⟨by kernel_rfl, fun wy hy => by (have q0 := (hy.cell (p := ⟨g, i * 3 + 1, none⟩) lg).trans CX.out; go_simp; done)⟩) hHeld ?_
  try simp only [Act.put, List.setIfInBounds_toArray, List.set_cons_zero, List.set_cons_succ]
  refine AnyE.take (i := 10) (.int .i64 (nx : Int)) rfl (by kernel_rfl) (by kernel_rfl) (by kernel_rfl) (by kernel_rfl) (fun _ _ _ h => h) (.inl ⟨by kernel_rfl, fun wy hy => by (cases xa <;> go_simp; done)⟩) hHeld ?_
  try simp only [Act.put, List.setIfInBounds_toArray, List.set_cons_zero, List.set_cons_succ]
  refine AnyE.one (i := 11) rfl (by kernel_rfl) (by kernel_rfl) (fun KK hK => ?_)
  go_simp
  refine hK.out _ _ ⟨fun _ => hHeld, ?_⟩
  clear hK
  try simp only [Act.put, List.setIfInBounds_toArray, List.set_cons_zero, List.set_cons_succ]
  refine AnyE.one (i := 12) rfl (by kernel_rfl) (by kernel_rfl) (fun KK hK => ?_)
  go_simp
  refine hK.out _ _ ⟨fun _ => hHeld, ?_⟩
  clear hK
  try simp only [Act.put, List.setIfInBounds_toArray, List.set_cons_zero, List.set_cons_succ]
  refine AnyE.done (by kernel_rfl) (NoPanic.normal ?_) _
  clear hHeld
  go_simp
  go_step
  go_wp2
  go_ret2
  exact ⟨rfl, HB.out⟩
 ·have h0n : (q != 0) = true := by simp [h0]
  have hRR : R = (0, q) := by rw [HR.out, if_pos (by rw [← HQ.out]; exact h0), ← HQ.out]
  subst hRR
  go_enter Try.func70, Try.ntmps70
  go_wp2_with fail
  refine HT.out.mono ?_
  rintro e w2 ⟨rfl, rfl⟩
  go_wp2
  go_ret2
  exact ⟨rfl, Below.refl _ _⟩
set_option maxRecDepth 100000 in
set_option maxHeartbeats 8000000 in
theorem rRead_any {s : ByteArray} {x y : Int} (h : RD w O rB r) (hx : x ≤ 9223372036854775807) (hy : y ≤ 9223372036854775807) : Calls Try.prog 68 #[.pointer (some ⟨rB, 0, none⟩), .string s, .int .i64 x, .int .i64 y] w fun e w' =>
  ∃ v, e = .returned (.tuple #[v, .int .i64 (readD r s x y).1]) ∧ w'.ownsRow w.heap.size 5 1 v (readD r s x y).2.length (bv (readD r s x y).2) ∧ RD w' O rB (r.red (decide ((readD r s x y).1 = 0))) ∧ Go4 w w' O O := by
 obtain ⟨X, hX⟩ : ∃ X, X = x := ⟨_, rfl⟩
 obtain ⟨Y, hY⟩ : ∃ Y, Y = y := ⟨_, rfl⟩
 rw [← hX, ← hY]
 rw [← hX] at hx
 rw [← hY] at hy
 clear hX hY x y
 have h9 := h
 obtain ⟨⟨ok, srt⟩, a, n, k, l, hm, hl⟩ := h
 have hR : ∃ R, R = readD r s X Y := ⟨_, rfl⟩
 obtain ⟨R, hR⟩ := hR
 rw [← hR]
 unfold readD at hR
 have hn : n = r.fs.length := by rw [← hl, List.length_map]; exact hm.row.len
 have HM := Lib.hid (And.intro hm (And.intro hl hn))
 have HOK := Lib.hid (And.intro ok srt)
 have H9 := Lib.hid h9
 have hth := rThere_any hm s
 rw [hl] at hth
 have hq : ∃ q, q = reaE r s := ⟨_, rfl⟩
 obtain ⟨q, hq⟩ := hq
 have hth2 : Calls Try.prog 51 #[.pointer (some ⟨rB, 0, none⟩), .string s] w fun e w' => e = .returned (.int .i64 q) ∧ w' = w := by rw [hq]; exact hth
 have HT := Lib.hid hth2
 have HQ := Lib.hid hq
 have HR := Lib.hid hR
 clear ok srt hm hl hn h9 hth hth2 hq hR
 by_cases h0 : q = 0
 ·subst h0
  have hsome := rea_some4 HQ.out.symm
  obtain ⟨v, hv⟩ := hsome
  have hdn := rdy_dn (rea_rdy4 HQ.out.symm)
  have HV := Lib.hid hv
  have HDN := Lib.hid hdn
  clear hv hdn
  have hR := HR.out
  rw [if_neg (by rw [← HQ.out]; simp), HV.out] at hR
  simp only [Option.getD_some] at hR
  have HR1 := Lib.hid hR
  clear hR HR
  have hidx : ∃ i, idxP (l.map (·.1)) s = some i := by
   cases hi : idxP (l.map (·.1)) s with
   | some i => exact ⟨i, rfl⟩
   | none =>
    have := (idxP_none hi).1
    rw [HM.out.2.1, HV.out] at this
    cases this
  obtain ⟨i, hi⟩ := hidx
  have e2 : idxI (l.map (·.1)) s = (i : Int) := by unfold idxI; rw [hi]
  obtain ⟨v2, hi1, hi2, _⟩ := idxP_some hi
  rw [HM.out.2.1, HV.out] at hi2
  cases hi2
  rw [List.getElem?_map] at hi1
  obtain ⟨x, hx, ex⟩ := Option.map_eq_some_iff.1 hi1
  have hset := setP_idx (v := (v.1, v.1.length)) hi
  rw [HM.out.2.1] at hset
  have HI := Lib.hid (And.intro hset ex)
  have HX := Lib.hid hx
  have hin : i < n := by have := (List.getElem?_eq_some_iff.1 hx).1; have := HM.out.1.row.len; omega
  have i1 : (i : Int) < (n : Int) := by omega
  have i2 : (0 : Int) ≤ (i : Int) := by omega
  clear hi hi1 hset hx
  have E2 := Lib.hid e2
  have hvx : v = (x.1.2.1, x.1.2.2) := by rw [HI.out.2]
  have HVX := Lib.hid hvx
  clear e2 hvx
  have hat2 := HM.out.1.row.at_ HX.out
  obtain ⟨g, hag, _, cx0, cx1, cx2⟩ := hat2
  subst hag
  have lg := World.block_lt_of_cell? _ _ cx0
  simp only at lg
  obtain ⟨xa, xc, hxv⟩ := (HM.out.1.dat x (List.mem_of_getElem? HX.out)).form
  have hnx : ∃ nx, nx = x.1.2.1.length := ⟨_, rfl⟩
  obtain ⟨nx, hnx⟩ := hnx
  have hxs : ∃ xs, xs = x.1.2.2 := ⟨_, rfl⟩
  obtain ⟨xs, hxs⟩ := hxs
  rw [hxv, ← hnx] at cx1
  rw [← hnx] at hxv
  rw [← hxs] at cx2
  have CX := Lib.hid cx1
  have CS := Lib.hid cx2
  have HXV := Lib.hid (And.intro hxv hnx)
  clear cx0 cx1 cx2 hxv hnx hxs
  have hR := HR1.out
  have hvx1 : v.1 = x.1.2.1 := by rw [HVX.out]
  rw [hvx1, ← HXV.out.2] at hR
  have HR2 := Lib.hid hR
  clear HR1
  have hnb : nx ≤ 67108864 := by
   have h1 := totP_mem HV.out
   have h2 := HOK.out.1.tot
   have h3 := HOK.out.1.cap1
   rw [hvx1, ← HXV.out.2] at h1
   omega
  have HNB := Lib.hid hnb
  clear hR hvx1
  go_enter Try.func68, Try.ntmps68
  go_wp2_with fail
  refine HT.out.mono ?_
  rintro e w3 ⟨rfl, rfl⟩
  go_upto_region 4 with fail
  have BD : Below w3.heap.size w3 w3.drew := (Below.refl _ _).drew
  refine wp_region_noPanic ?_
  refine wp_region_anyE (S := fun wx => Below w3.heap.size w3 wx) (E := fun j => true) (by kernel_rfl) ?_
  have hHeld : Below w3.heap.size w3 w3.drew := BD
  have HB := Lib.hid BD
  have hZ0 : ∃ z, z = w3.drew := ⟨_, rfl⟩
  obtain ⟨Z0, hZ0⟩ := hZ0
  rw [← hZ0] at HB hHeld ⊢
  clear hZ0 BD
  refine AnyE.take (i := 0) (.pointer (some ⟨rB, 0, none⟩)) rfl (by kernel_rfl) (by kernel_rfl) (by kernel_rfl) (by kernel_rfl) (fun _ _ _ h => h) (.inl ⟨by kernel_rfl, fun wy hy => by (go_simp; done)⟩) hHeld ?_
  try simp only [Act.put, List.setIfInBounds_toArray, List.set_cons_zero, List.set_cons_succ]
  refine AnyE.take (i := 1) (.pointer (some ⟨rB, 0, none⟩)) rfl (by kernel_rfl) (by kernel_rfl) (by kernel_rfl) (by kernel_rfl) (fun _ _ _ h => h) (.inl ⟨by kernel_rfl, fun wy hy => by (go_simp; done)⟩) hHeld ?_
  try simp only [Act.put, List.setIfInBounds_toArray, List.set_cons_zero, List.set_cons_succ]
  refine AnyE.take (i := 2) (.pointer (some ⟨rB, 1, none⟩)) rfl (by kernel_rfl) (by kernel_rfl) (by kernel_rfl) (by kernel_rfl) (fun _ _ _ h => h) (.inl ⟨by kernel_rfl, fun wy hy => by (go_simp; done)⟩) hHeld ?_
  try simp only [Act.put, List.setIfInBounds_toArray, List.set_cons_zero, List.set_cons_succ]
  refine AnyE.take (i := 3) (.slice (some ⟨g, 0, none⟩) n k) rfl (by kernel_rfl) (by kernel_rfl) (by kernel_rfl) (by kernel_rfl) (fun _ _ _ h => h) (.inl ⟨by kernel_rfl, fun wy hy => by (have q0 := (HM.out.1.below hy).box.cells.2.1; go_simp; done)⟩) hHeld ?_
  try simp only [Act.put, List.setIfInBounds_toArray, List.set_cons_zero, List.set_cons_succ]
  refine AnyE.take (i := 4) (.pointer (some ⟨rB, 0, none⟩)) rfl (by kernel_rfl) (by kernel_rfl) (by kernel_rfl) (by kernel_rfl) (fun _ _ _ h => h) (.inl ⟨by kernel_rfl, fun wy hy => by (go_simp; done)⟩) hHeld ?_
  try simp only [Act.put, List.setIfInBounds_toArray, List.set_cons_zero, List.set_cons_succ]
  refine AnyE.take (i := 5) (.string s) rfl (by kernel_rfl) (by kernel_rfl) (by kernel_rfl) (by kernel_rfl) (fun _ _ _ h => h) (.inl ⟨by kernel_rfl, fun wy hy => by (go_simp; done)⟩) hHeld ?_
  try simp only [Act.put, List.setIfInBounds_toArray, List.set_cons_zero, List.set_cons_succ]
  refine AnyE.one (i := 6) rfl (by kernel_rfl) (by kernel_rfl) (fun KK hK => ?_)
  have hat := rAt_any (HM.out.1.below HB.out) s
  rw [E2.out] at hat
  have HAT := Lib.hid hat
  clear hat
  go_simp
  go_at_call 41
  refine HAT.out.mono ?_
  rintro e9 Z1 ⟨rfl, hz1⟩
  rw [hz1] at *
  clear hz1 HAT
  go_wp2_with fail
  refine hK.out _ _ ⟨fun _ => hHeld, ?_⟩
  clear hK
  try simp only [Act.put, List.setIfInBounds_toArray, List.set_cons_zero, List.set_cons_succ]
  refine AnyE.take (i := 7) (.pointer (some ⟨g, i * 3, none⟩)) rfl (by kernel_rfl) (by kernel_rfl) (by kernel_rfl) (by kernel_rfl) (fun _ _ _ h => h) (.inl ⟨by kernel_rfl, fun wy hy => by (go_simp; done)⟩) hHeld ?_
  try simp only [Act.put, List.setIfInBounds_toArray, List.set_cons_zero, List.set_cons_succ]
  refine AnyE.take (i := 8) (.pointer (some ⟨g, i * 3 + 1, none⟩)) rfl (by kernel_rfl) (by kernel_rfl) (by kernel_rfl) (by kernel_rfl) (fun _ _ _ h => h) (.inl ⟨by kernel_rfl, fun wy hy => by (go_simp; done)⟩) hHeld ?_
  try simp only [Act.put, List.setIfInBounds_toArray, List.set_cons_zero, List.set_cons_succ]
  refine AnyE.take (i := 9) (.slice xa nx xc) rfl (by kernel_rfl) (by kernel_rfl) (by kernel_rfl) (by kernel_rfl) (fun _ _ _ h => h) (.inl ⟨by kernel_rfl, fun wy hy => by (have q0 := (hy.cell (p := ⟨g, i * 3 + 1, none⟩) lg).trans CX.out; go_simp; done)⟩) hHeld ?_
  try simp only [Act.put, List.setIfInBounds_toArray, List.set_cons_zero, List.set_cons_succ]
  refine AnyE.one (i := 10) rfl (by kernel_rfl) (by kernel_rfl) (fun KK hK => ?_)
  go_simp
  refine hK.out _ _ ⟨fun _ => hHeld, ?_⟩
  clear hK
  try simp only [Act.put, List.setIfInBounds_toArray, List.set_cons_zero, List.set_cons_succ]
  refine AnyE.done (by kernel_rfl) (NoPanic.normal ?_) _
  clear hHeld
  obtain ⟨Z9, hZ9⟩ : ∃ z, z = Z0 := ⟨_, rfl⟩
  rw [← hZ9] at HB ⊢
  clear hZ9
  go_simp
  go_step
  by_cases x0 : X < 0
  ·have hR := HR2.out
   rw [if_pos (.inl x0)] at hR
   subst hR
   go_wp2
   go_ret2
   exact ⟨_, rfl, World.ownsRow_nil .., H9.out.below HB.out, Go4.of_below HB.out⟩
  by_cases y0 : Y < 0
  ·have hR := HR2.out
   rw [if_pos (.inr (.inl y0))] at hR
   subst hR
   go_wp2
   go_ret2
   exact ⟨_, rfl, World.ownsRow_nil .., H9.out.below HB.out, Go4.of_below HB.out⟩
  by_cases x1 : (nx : Int) < X
  ·have hR := HR2.out
   rw [if_pos (.inr (.inr (.inl x1)))] at hR
   subst hR
   go_wp2
   go_ret2
   exact ⟨_, rfl, World.ownsRow_nil .., H9.out.below HB.out, Go4.of_below HB.out⟩
  by_cases y1 : (nx : Int) - X < Y
  ·have hR := HR2.out
   rw [if_pos (.inr (.inr (.inr y1)))] at hR
   subst hR
   go_wp2
   go_ret2
   exact ⟨_, rfl, World.ownsRow_nil .., H9.out.below HB.out, Go4.of_below HB.out⟩
  have hR := HR2.out
  rw [if_neg (by omega)] at hR
  subst hR
  obtain ⟨j, rfl⟩ : ∃ j : Nat, X = j := ⟨X.toNat, by omega⟩
  obtain ⟨m, rfl⟩ : ∃ m : Nat, Y = m := ⟨Y.toNat, by omega⟩
  have hjm : j + m ≤ nx := by omega
  have M0 := HM.out.1.below HB.out
  have MC := Lib.hid (M0.setCt 5 (by decide) (wrap64 (r.c 5 + 1)))
  have c9 := M0.box.cells.2.2.2.2.2.2.2.2.2
  have z9 := M0.box.fz 9
  have HOB := Lib.hid M0.orb
  have hrd := (MC.out.dat x (List.mem_of_getElem? HX.out)).rd (by have := HNB.out; have := HXV.out.2; omega)
  rw [HXV.out.1] at hrd
  have HRD0 := Lib.hid hrd
  have hnc : nx ≤ xc := by
   obtain ⟨_, a1, c1, h2, h3, _⟩ := hrd
   simp only [Value.slice.injEq] at h2
   obtain ⟨_, rfl, rfl⟩ := h2
   have := HXV.out.2
   omega
  have HMD := Lib.hid (hrd.mid j m hjm)
  have hjc : j + m ≤ xc := by omega
  have hl2 : ((x.1.2.1.drop j).take m).length = m := by rw [List.length_take, List.length_drop]; have := HXV.out.2; omega
  have HL2 := Lib.hid hl2
  have hok2 := HOK.out.1.mk2 HOK.out.1.fs HOK.out.1.arm0 HOK.out.1.arm1 r.down (setCt r.c 5 (wrap64 (r.c 5 + 1)))
  have HOK2 := Lib.hid hok2
  clear M0 hrd hl2 hok2
  by_cases hcj : xc = j
  ·have hmd := HMD.out
   rw [if_pos hcj] at hmd
   subst hcj
   obtain rfl : m = 0 := by omega
   rw [Nat.sub_self] at hmd
   have HMD2 := Lib.hid hmd
   clear hmd HMD
   go_wp2_with fail
   refine (rCopied_any HMD2.out (by rw [HL2.out]; omega)).mono ?_
   rintro e w4 ⟨ra, rc, rfl, hv4, b4⟩
   have HV4 := Lib.hid (And.intro hv4 b4)
   clear hv4 b4
   go_wp2
   go_ret2
   refine ⟨_, rfl, ?_, ?_, ?_⟩
   ·have hq := ownsRow_less (B' := w3.heap.size) HV4.out.1 (by have := HB.out.size; simp [World.setCell]; omega)
    have hvx2 : v.1 = x.1.2.1 := by rw [HVX.out]
    first | exact hq | (rw [hvx2]; exact hq) | (simp only [List.length_take, List.length_drop] at hq; exact hq) | (simp [hvx2] at hq ⊢; exact hq)
   ·exact ⟨⟨HOK2.out, HOK.out.2⟩, some ⟨g, 0, none⟩, n, k, l, MC.out.below HV4.out.2, HM.out.2.1⟩
   ·exact (Go4.of_below HB.out).trans ((Go4.of_set (a := ⟨rB, 9, none⟩) HOB.out _).trans (Go4.of_below HV4.out.2))
  ·have hmd := HMD.out
   rw [if_neg hcj] at hmd
   have HMD2 := Lib.hid hmd
   clear hmd HMD
   go_wp2_with fail
   refine (rCopied_any HMD2.out (by rw [HL2.out]; omega)).mono ?_
   rintro e w4 ⟨ra, rc, rfl, hv4, b4⟩
   have HV4 := Lib.hid (And.intro hv4 b4)
   clear hv4 b4
   go_wp2
   go_ret2
   refine ⟨_, rfl, ?_, ?_, ?_⟩
   ·have hq := ownsRow_less (B' := w3.heap.size) HV4.out.1 (by have := HB.out.size; simp [World.setCell]; omega)
    have hvx2 : v.1 = x.1.2.1 := by rw [HVX.out]
    first | exact hq | (rw [hvx2]; exact hq) | (simp only [List.length_take, List.length_drop] at hq; exact hq) | (simp [hvx2] at hq ⊢; exact hq)
   ·exact ⟨⟨HOK2.out, HOK.out.2⟩, some ⟨g, 0, none⟩, n, k, l, MC.out.below HV4.out.2, HM.out.2.1⟩
   ·exact (Go4.of_below HB.out).trans ((Go4.of_set (a := ⟨rB, 9, none⟩) HOB.out _).trans (Go4.of_below HV4.out.2))
 ·have h0n : (q != 0) = true := by simp [h0]
  have hRR : R = (q, []) := by rw [HR.out, if_pos (by rw [← HQ.out]; exact h0), ← HQ.out]
  subst hRR
  have hd : decide (q = 0) = false := decide_eq_false h0
  go_enter Try.func68, Try.ntmps68
  go_wp2_with fail
  refine HT.out.mono ?_
  rintro e w2 ⟨rfl, rfl⟩
  go_wp2
  go_ret2
  refine ⟨_, rfl, World.ownsRow_nil .., ?_, Go4.refl _ _⟩
  simp only [hd]
  exact H9.out
end Go.Proofs.Ytlkhphhmhffdjaa

namespace Go.Proofs.Ytlkhphhmhffdjaa
open Go.RowKit Go.MapKept Go.Sort
variable {w w' W X : World} {O O' : Nat → Prop} {dB rB : Nat} {d r : Dk4}
theorem OwnO.later13 {v : Value} {b : List Nat} (h : OwnO w O v b) (k : Below w.heap.size w w') : OwnO w' O v b := h.kept (fun g hg => ⟨k.block g (by obtain ⟨cur, ht⟩ := h.typ hg; exact (Array.getElem?_eq_some_iff.1 ht).1), h.blk g hg⟩)
set_option maxRecDepth 100000 in
set_option maxHeartbeats 8000000 in
theorem rFiles_any (h : RD w O rB r) : Calls Try.prog 11 #[.pointer (some ⟨rB, 0, none⟩)] w fun e w' => ∃ a n k l, e = .returned (.slice a n k) ∧ FLs w' w.heap.size (.slice a n k) n l ∧ l.map (·.1) = r.fs ∧ Below w.heap.size w w' := by
 obtain ⟨⟨ok, srt⟩, a, n, k, l, hm, hl⟩ := h
 have hn : n = r.fs.length := by rw [← hl, List.length_map]; exact hm.row.len
 have hnl := hm.row.len
 have HM := Lib.hid (And.intro hm (And.intro hl hn))
 have HN := Lib.hid hnl
 have HOK := Lib.hid (And.intro ok srt)
 have h256 : n ≤ 256 := by have := ok.cnt; omega
 have hax : n ≤ 9223372036854775807 := by omega
 clear hm hl hn hnl ok srt
 go_enter Try.func11, Try.ntmps11
 have c0 := HM.out.1.box.cells.2.1
 go_wp2_with fail
 clear c0
 go_loopw [3, 4] (fun v i wr => ∃ (t : Nat) (am : Option Addr) (m km : Nat) (l2 : List (PF × Value)), t ≤ n ∧ i = .int .i64 (t : Int) ∧ v = .slice am m km ∧ FLs wr w.heap.size (.slice am m km) m l2 ∧ l2.map (·.1) = (l.map (·.1)).take t ∧ Below w.heap.size w wr) (fun _ i _ => n - (intOf i).toNat)
 case atStart => exact ⟨0, none, 0, 0, [], Nat.zero_le _, rfl, rfl, FLs.nil _ _, by simp, Below.refl _ _⟩
 case round =>
  obtain ⟨t, am, m, km, l2, ht, rfl, rfl, hfl, hll, hbw⟩ := hrel
  have HFL := Lib.hid (And.intro hfl hll)
  have HBW := Lib.hid hbw
  have c0 := (HM.out.1.below hbw).box.cells.2.1
  clear hfl hll hbw
  by_cases hlt : t < n
  ·have j1 : (t : Int) < (n : Int) := by omega
   have j2 : (0 : Int) ≤ (t : Int) := by omega
   have hx : ∃ x, l[t]? = some x := ⟨_, List.getElem?_eq_getElem (by rw [← HN.out]; exact hlt)⟩
   obtain ⟨x, hx⟩ := hx
   have HX := Lib.hid hx
   have hm256 : m ≤ 1000000 := by
    have h1 := HFL.out.1.len
    have h2 := congrArg List.length HFL.out.2
    rw [List.length_map, List.length_take] at h2
    omega
   have hxl := totP_mem (atP_of_mem HOK.out.1.nod (show (x.1.1, x.1.2) ∈ r.fs from (by rw [← HM.out.2.1]; exact List.mem_map.2 ⟨x, List.mem_of_getElem? hx, rfl⟩)))
   have HXS : Hid (x.1.2.1.length ≤ 67108864) := by
    have h2 := HOK.out.1.tot
    have h3 := HOK.out.1.cap1
    unfold Hid
    omega
   clear hx hxl
   have hat2 := HM.out.1.row.at_ HX.out
   obtain ⟨g, hag, _, cx0, cx1, cx2⟩ := hat2
   subst hag
   have lg := World.block_lt_of_cell? _ _ cx0
   simp only at lg
   obtain ⟨xa, xc, hxv⟩ := (HM.out.1.dat x (List.mem_of_getElem? HX.out)).form
   have hnx : ∃ nx, nx = x.1.2.1.length := ⟨_, rfl⟩
   obtain ⟨nx, hnx⟩ := hnx
   have hxs : ∃ xs, xs = x.1.2.2 := ⟨_, rfl⟩
   obtain ⟨xs, hxs⟩ := hxs
   rw [hxv, ← hnx] at cx1
   rw [← hnx] at hxv
   rw [← hxs] at cx2
   have CN := Lib.hid cx0
   have CX := Lib.hid cx1
   have CS := Lib.hid cx2
   have HXV := Lib.hid (And.intro hxv hnx)
   have HXS2 : Hid (((x.1.1, x.1.2.1, xs) : PF) = x.1) := by rw [hxs]; rfl
   clear cx0 cx1 cx2 hxv hnx hxs
   go_upto_region 5 with fail
   clear c0
   refine wp_region_noPanic ?_
   refine wp_region_anyE (S := fun wx => Below w.heap.size w wx) (E := fun j => true) (by kernel_rfl) ?_
   have hHeld : Below w.heap.size w wr.drew := HBW.out.drew
   have HZ := Lib.hid ((Below.refl wr.heap.size wr).drew)
   have hZ0 : ∃ z, z = wr.drew := ⟨_, rfl⟩
   obtain ⟨Z0, hZ0⟩ := hZ0
   rw [← hZ0] at HZ hHeld ⊢
   clear hZ0
   refine AnyE.take (i := 0) (.slice am m km) rfl (by kernel_rfl) (by kernel_rfl) (by kernel_rfl) (by kernel_rfl) (fun _ _ _ h => h) (.inl ⟨by kernel_rfl, fun wy hy => by (go_simp; done)⟩) hHeld ?_
   try simp only [Act.put, List.setIfInBounds_toArray, List.set_cons_zero, List.set_cons_succ]
   refine AnyE.take (i := 1) (.pointer (some ⟨rB, 0, none⟩)) rfl (by kernel_rfl) (by kernel_rfl) (by kernel_rfl) (by kernel_rfl) (fun _ _ _ h => h) (.inl ⟨by kernel_rfl, fun wy hy => by (go_simp; done)⟩) hHeld ?_
   try simp only [Act.put, List.setIfInBounds_toArray, List.set_cons_zero, List.set_cons_succ]
   refine AnyE.take (i := 2) (.pointer (some ⟨rB, 0, none⟩)) rfl (by kernel_rfl) (by kernel_rfl) (by kernel_rfl) (by kernel_rfl) (fun _ _ _ h => h) (.inl ⟨by kernel_rfl, fun wy hy => by (go_simp; done)⟩) hHeld ?_
   try simp only [Act.put, List.setIfInBounds_toArray, List.set_cons_zero, List.set_cons_succ]
   refine AnyE.take (i := 3) (.pointer (some ⟨rB, 1, none⟩)) rfl (by kernel_rfl) (by kernel_rfl) (by kernel_rfl) (by kernel_rfl) (fun _ _ _ h => h) (.inl ⟨by kernel_rfl, fun wy hy => by (go_simp; done)⟩) hHeld ?_
   try simp only [Act.put, List.setIfInBounds_toArray, List.set_cons_zero, List.set_cons_succ]
   refine AnyE.take (i := 4) (.slice (some ⟨g, 0, none⟩) n k) rfl (by kernel_rfl) (by kernel_rfl) (by kernel_rfl) (by kernel_rfl) (fun _ _ _ h => h) (.inl ⟨by kernel_rfl, fun wy hy => by (have q0 := (HM.out.1.below hy).box.cells.2.1; go_simp; done)⟩) hHeld ?_
   try simp only [Act.put, List.setIfInBounds_toArray, List.set_cons_zero, List.set_cons_succ]
   refine AnyE.take (i := 5) (.int .i64 (t : Int)) rfl (by kernel_rfl) (by kernel_rfl) (by kernel_rfl) (by kernel_rfl) (fun _ _ _ h => h) (.inl ⟨by kernel_rfl, fun wy hy => by (go_simp; done)⟩) hHeld ?_
   try simp only [Act.put, List.setIfInBounds_toArray, List.set_cons_zero, List.set_cons_succ]
   refine AnyE.take (i := 6) (.pointer (some ⟨g, t * 3, none⟩)) rfl (by kernel_rfl) (by kernel_rfl) (by kernel_rfl) (by kernel_rfl) (fun _ _ _ h => h) (.inl ⟨by kernel_rfl, fun wy hy => by (go_simp; done)⟩) hHeld ?_
   try simp only [Act.put, List.setIfInBounds_toArray, List.set_cons_zero, List.set_cons_succ]
   refine AnyE.take (i := 7) (.pointer (some ⟨g, t * 3, none⟩)) rfl (by kernel_rfl) (by kernel_rfl) (by kernel_rfl) (by kernel_rfl) (fun _ _ _ h => h) (.inl ⟨by kernel_rfl, fun wy hy => by (go_simp; done)⟩) hHeld ?_
   try simp only [Act.put, List.setIfInBounds_toArray, List.set_cons_zero, List.set_cons_succ]
   refine AnyE.take (i := 8) (.string x.1.1) rfl (by kernel_rfl) (by kernel_rfl) (by kernel_rfl) (by kernel_rfl) (fun _ _ _ h => h) (.inl ⟨by kernel_rfl, fun wy hy => by (have q0 := (hy.cell (p := ⟨g, t * 3, none⟩) lg).trans CN.out; go_simp; done)⟩) hHeld ?_
   try simp only [Act.put, List.setIfInBounds_toArray, List.set_cons_zero, List.set_cons_succ]
   refine AnyE.take (i := 9) (.pointer (some ⟨rB, 0, none⟩)) rfl (by kernel_rfl) (by kernel_rfl) (by kernel_rfl) (by kernel_rfl) (fun _ _ _ h => h) (.inl ⟨by kernel_rfl, fun wy hy => by (go_simp; done)⟩) hHeld ?_
   try simp only [Act.put, List.setIfInBounds_toArray, List.set_cons_zero, List.set_cons_succ]
   refine AnyE.take (i := 10) (.pointer (some ⟨rB, 0, none⟩)) rfl (by kernel_rfl) (by kernel_rfl) (by kernel_rfl) (by kernel_rfl) (fun _ _ _ h => h) (.inl ⟨by kernel_rfl, fun wy hy => by (go_simp; done)⟩) hHeld ?_
   try simp only [Act.put, List.setIfInBounds_toArray, List.set_cons_zero, List.set_cons_succ]
   refine AnyE.take (i := 11) (.pointer (some ⟨rB, 1, none⟩)) rfl (by kernel_rfl) (by kernel_rfl) (by kernel_rfl) (by kernel_rfl) (fun _ _ _ h => h) (.inl ⟨by kernel_rfl, fun wy hy => by (go_simp; done)⟩) hHeld ?_
   try simp only [Act.put, List.setIfInBounds_toArray, List.set_cons_zero, List.set_cons_succ]
   refine AnyE.take (i := 12) (.slice (some ⟨g, 0, none⟩) n k) rfl (by kernel_rfl) (by kernel_rfl) (by kernel_rfl) (by kernel_rfl) (fun _ _ _ h => h) (.inl ⟨by kernel_rfl, fun wy hy => by (have q0 := (HM.out.1.below hy).box.cells.2.1; go_simp; done)⟩) hHeld ?_
   try simp only [Act.put, List.setIfInBounds_toArray, List.set_cons_zero, List.set_cons_succ]
   refine AnyE.take (i := 13) (.int .i64 (t : Int)) rfl (by kernel_rfl) (by kernel_rfl) (by kernel_rfl) (by kernel_rfl) (fun _ _ _ h => h) (.inl ⟨by kernel_rfl, fun wy hy => by (go_simp; done)⟩) hHeld ?_
   try simp only [Act.put, List.setIfInBounds_toArray, List.set_cons_zero, List.set_cons_succ]
   refine AnyE.take (i := 14) (.pointer (some ⟨g, t * 3, none⟩)) rfl (by kernel_rfl) (by kernel_rfl) (by kernel_rfl) (by kernel_rfl) (fun _ _ _ h => h) (.inl ⟨by kernel_rfl, fun wy hy => by (go_simp; done)⟩) hHeld ?_
   try simp only [Act.put, List.setIfInBounds_toArray, List.set_cons_zero, List.set_cons_succ]
   refine AnyE.take (i := 15) (.pointer (some ⟨g, t * 3 + 1, none⟩)) rfl (by kernel_rfl) (by kernel_rfl) (by kernel_rfl) (by kernel_rfl) (fun _ _ _ h => h) (.inl ⟨by kernel_rfl, fun wy hy => by (go_simp; done)⟩) hHeld ?_
   try simp only [Act.put, List.setIfInBounds_toArray, List.set_cons_zero, List.set_cons_succ]
   refine AnyE.take (i := 16) (.slice xa nx xc) rfl (by kernel_rfl) (by kernel_rfl) (by kernel_rfl) (by kernel_rfl) (fun _ _ _ h => h) (.inl ⟨by kernel_rfl, fun wy hy => by (have q0 := (hy.cell (p := ⟨g, t * 3 + 1, none⟩) lg).trans CX.out; go_simp; done)⟩) hHeld ?_
   try simp only [Act.put, List.setIfInBounds_toArray, List.set_cons_zero, List.set_cons_succ]
   refine AnyE.take (i := 18) (.pointer (some ⟨rB, 0, none⟩)) rfl (by kernel_rfl) (by kernel_rfl) (by kernel_rfl) (by kernel_rfl) (fun _ _ _ h => h) (.inl ⟨by kernel_rfl, fun wy hy => by (go_simp; done)⟩) hHeld ?_
   try simp only [Act.put, List.setIfInBounds_toArray, List.set_cons_zero, List.set_cons_succ]
   refine AnyE.take (i := 19) (.pointer (some ⟨rB, 0, none⟩)) rfl (by kernel_rfl) (by kernel_rfl) (by kernel_rfl) (by kernel_rfl) (fun _ _ _ h => h) (.inl ⟨by kernel_rfl, fun wy hy => by (go_simp; done)⟩) hHeld ?_
   try simp only [Act.put, List.setIfInBounds_toArray, List.set_cons_zero, List.set_cons_succ]
   refine AnyE.take (i := 20) (.pointer (some ⟨rB, 1, none⟩)) rfl (by kernel_rfl) (by kernel_rfl) (by kernel_rfl) (by kernel_rfl) (fun _ _ _ h => h) (.inl ⟨by kernel_rfl, fun wy hy => by (go_simp; done)⟩) hHeld ?_
   try simp only [Act.put, List.setIfInBounds_toArray, List.set_cons_zero, List.set_cons_succ]
   refine AnyE.take (i := 21) (.slice (some ⟨g, 0, none⟩) n k) rfl (by kernel_rfl) (by kernel_rfl) (by kernel_rfl) (by kernel_rfl) (fun _ _ _ h => h) (.inl ⟨by kernel_rfl, fun wy hy => by (have q0 := (HM.out.1.below hy).box.cells.2.1; go_simp; done)⟩) hHeld ?_
   try simp only [Act.put, List.setIfInBounds_toArray, List.set_cons_zero, List.set_cons_succ]
   refine AnyE.take (i := 22) (.int .i64 (t : Int)) rfl (by kernel_rfl) (by kernel_rfl) (by kernel_rfl) (by kernel_rfl) (fun _ _ _ h => h) (.inl ⟨by kernel_rfl, fun wy hy => by (go_simp; done)⟩) hHeld ?_
   try simp only [Act.put, List.setIfInBounds_toArray, List.set_cons_zero, List.set_cons_succ]
   refine AnyE.take (i := 23) (.pointer (some ⟨g, t * 3, none⟩)) rfl (by kernel_rfl) (by kernel_rfl) (by kernel_rfl) (by kernel_rfl) (fun _ _ _ h => h) (.inl ⟨by kernel_rfl, fun wy hy => by (go_simp; done)⟩) hHeld ?_
   try simp only [Act.put, List.setIfInBounds_toArray, List.set_cons_zero, List.set_cons_succ]
   refine AnyE.take (i := 24) (.pointer (some ⟨g, t * 3 + 2, none⟩)) rfl (by kernel_rfl) (by kernel_rfl) (by kernel_rfl) (by kernel_rfl) (fun _ _ _ h => h) (.inl ⟨by kernel_rfl, fun wy hy => by (go_simp; done)⟩) hHeld ?_
   try simp only [Act.put, List.setIfInBounds_toArray, List.set_cons_zero, List.set_cons_succ]
   refine AnyE.take (i := 25) (.int .i64 (xs : Int)) rfl (by kernel_rfl) (by kernel_rfl) (by kernel_rfl) (by kernel_rfl) (fun _ _ _ h => h) (.inl ⟨by kernel_rfl, fun wy hy => by (have q0 := (hy.cell (p := ⟨g, t * 3 + 2, none⟩) lg).trans CS.out; go_simp; done)⟩) hHeld ?_
   try simp only [Act.put, List.setIfInBounds_toArray, List.set_cons_zero, List.set_cons_succ]
   refine AnyE.one (i := 17) rfl (by kernel_rfl) (by kernel_rfl) (fun KK hK => ?_)
   go_simp
   go_at_call 35
   have hdz := (HM.out.1.dat x (List.mem_of_getElem? HX.out)).later13 hHeld
   rw [HXV.out.1] at hdz
   refine (rCopied_any (hdz.rd (by have := HXS.out; omega)) (by have := HXS.out; omega)).mono ?_
   rintro e9 Z1 ⟨ca, cc, rfl, hca, b1⟩
   have ho := OwnO.of_row hca hdz.bys
   rw [← HXV.out.2] at ho ⊢
   have HOC := Lib.hid ho
   have hHeld0 := hHeld
   have hHeld : Below w.heap.size w Z1 := hHeld0.trans (b1.mono hHeld0.size)
   have HZ1 := Lib.hid (And.intro b1 hHeld0.size)
   clear hdz hca ho hHeld0 b1
   go_wp2_with fail
   refine hK.out _ _ ⟨fun _ => hHeld, ?_⟩
   clear hK
   try simp only [Act.put, List.setIfInBounds_toArray, List.set_cons_zero, List.set_cons_succ]
   refine AnyE.take (i := 26) (.agg #[.string x.1.1, .slice ca nx cc, .int .i64 (xs : Int)]) rfl (by kernel_rfl) (by kernel_rfl) (by kernel_rfl) (by kernel_rfl) (fun _ _ _ h => h) (.inl ⟨by kernel_rfl, fun wy hy => by (go_simp; done)⟩) hHeld ?_
   try simp only [Act.put, List.setIfInBounds_toArray, List.set_cons_zero, List.set_cons_succ]
   refine AnyE.one (i := 27) rfl (by kernel_rfl) (by kernel_rfl) (fun KK hK => ?_)
   go_simp
   have bA := (Below.refl Z1.heap.size Z1).alloc (Nat.le_refl _) (.cells #[.string x.1.1, .slice ca nx cc, .int .i64 (xs : Int)] 60)
   have cA : (Z1.alloc (.cells #[.string x.1.1, .slice ca nx cc, .int .i64 (xs : Int)] 60)).cell? ⟨Z1.heap.size, 0, none⟩ = some (.string x.1.1) ∧ (Z1.alloc (.cells #[.string x.1.1, .slice ca nx cc, .int .i64 (xs : Int)] 60)).cell? ⟨Z1.heap.size, 1, none⟩ = some (.slice ca nx cc) ∧ (Z1.alloc (.cells #[.string x.1.1, .slice ca nx cc, .int .i64 (xs : Int)] 60)).cell? ⟨Z1.heap.size, 2, none⟩ = some (.int .i64 (xs : Int)) := by
    refine ⟨?_, ?_, ?_⟩ <;> simp [go_sem]
   have hZ3 : ∃ z, z = Z1.alloc (.cells #[.string x.1.1, .slice ca nx cc, .int .i64 (xs : Int)] 60) := ⟨_, rfl⟩
   obtain ⟨Z3, hZ3⟩ := hZ3
   rw [← hZ3] at bA cA ⊢
   clear hZ3
   have hHeld1 := hHeld
   have hHeld : Below w.heap.size w Z3 := hHeld1.trans (bA.mono hHeld1.size)
   have HCA := Lib.hid (And.intro bA cA)
   clear bA cA hHeld1
   refine hK.out _ _ ⟨fun _ => hHeld, ?_⟩
   clear hK
   try simp only [Act.put, List.setIfInBounds_toArray, List.set_cons_zero, List.set_cons_succ]
   refine AnyE.one (i := 28) rfl (by kernel_rfl) (by kernel_rfl) (fun KK hK => ?_)
   have o3 : OwnO Z3 (fun i => w.heap.size ≤ i) (.slice ca nx cc) x.1.2.1 := HOC.out.kept (fun q hq => ⟨HCA.out.1.block q (HOC.out.blk q hq).2, Nat.le_trans HZ1.out.2 (HOC.out.blk q hq).1⟩)
   have HO3 := Lib.hid o3
   have hfl3 : FLs Z3 w.heap.size (.slice am m km) m l2 := ((HFL.out.1.later HZ.out).later HZ1.out.1).later HCA.out.1
   have HF3 := Lib.hid hfl3
   have hsz : w.heap.size ≤ Z3.heap.size := hHeld.size
   clear o3 hfl3
   refine file_append _ _ rfl (B := w.heap.size) (n := m) (blk := Z1.heap.size) (v := .slice am m km) (l := l2) (f := ((x.1.1, x.1.2.1, xs), .slice ca nx cc)) rfl HF3.out rfl HCA.out.2 HO3.out hm256 hsz (fun a9 k9 Z4 own9 b9 g9 => ?_)
   have hHeld1 := hHeld
   have hHeld : Below w.heap.size w Z4 := hHeld1.trans b9
   have HF4 := Lib.hid (And.intro own9 hHeld)
   clear own9 b9 g9 hHeld1 hsz
   refine hK.out _ _ ⟨fun _ => hHeld, ?_⟩
   clear hK
   try simp only [Act.put, List.setIfInBounds_toArray, List.set_cons_zero, List.set_cons_succ]
   refine AnyE.one (i := 29) rfl (by kernel_rfl) (by kernel_rfl) (fun KK hK => ?_)
   go_simp
   refine hK.out _ _ ⟨fun _ => hHeld, ?_⟩
   clear hK hHeld
   try simp only [Act.put, List.setIfInBounds_toArray, List.set_cons_zero, List.set_cons_succ]
   refine AnyE.done (by kernel_rfl) (NoPanic.normal ?_) _
   go_simp
   go_step
   go_wp2
   go_roundw
   case rel =>
    refine ⟨t + 1, a9, m + 1, k9, l2 ++ [((x.1.1, x.1.2.1, xs), .slice ca nx cc)], by omega, by go_num, rfl, HF4.out.1, ?_, HF4.out.2⟩
    rw [List.map_append, HFL.out.2, List.take_add_one, List.getElem?_map, HX.out, HXS2.out]
    rfl
   case measure => simp [intOf]; omega
  ·have j1 : (n : Int) ≤ (t : Int) := by omega
   have hall : (l.map (·.1)).take t = l.map (·.1) := List.take_of_length_le (by rw [List.length_map, ← HN.out]; omega)
   have HALL := Lib.hid hall
   clear hall hlt
   go_wp2
   go_ret
   first
    | exact ⟨am, m, km, l2, rfl, HFL.out.1, by rw [HFL.out.2, HALL.out, HM.out.2.1], HBW.out⟩
    | exact ⟨am, m, km, rfl, l2, HFL.out.1, by rw [HFL.out.2, HALL.out, HM.out.2.1], HBW.out⟩
end Go.Proofs.Ytlkhphhmhffdjaa

namespace Go.Proofs.Ytlkhphhmhffdjaa
open Go.RowKit Go.MapKept Go.Sort
variable {w w' W X : World} {O O' : Nat → Prop} {dB rB : Nat} {d r : Dk4}
def lsR (fs : List PF) (pre : ByteArray) : List (List UInt8) := ((fs.map (·.1)).filter (preB pre)).map nmL
theorem lsR_snoc {fs : List PF} {t : Nat} {p : PF} (h : fs[t]? = some p) (pre : ByteArray) : lsR (fs.take (t + 1)) pre = lsR (fs.take t) pre ++ (if preB pre p.1 = true then [nmL p.1] else []) := by
 unfold lsR
 rw [List.take_add_one, h]
 simp only [Option.toList_some, List.map_append, List.map_cons, List.map_nil, List.filter_append, List.filter_cons, List.filter_nil]
 split <;> simp
theorem lsR_files (pre : ByteArray) : lsR (filesP d) pre = lsP d.fs pre := by
 rw [lsP_pre]
 unfold lsR filesP
 generalize lsP d.fs ⟨#[]⟩ = L
 induction L with
 | nil => rfl
 | cons x xs ih =>
  have e : (fileP d x).1 = ofL x := rfl
  by_cases h : preB pre (ofL x) = true
  ·rw [List.map_cons, List.map_cons, List.filter_cons_of_pos (by rw [e]; exact h), List.filter_cons_of_pos (p := fun l => preB pre (ofL l)) h, List.map_cons, ih, e, nmL_ofL]
  ·rw [List.map_cons, List.map_cons, List.filter_cons_of_neg (by rw [e]; exact h), List.filter_cons_of_neg (p := fun l => preB pre (ofL l)) h, ih]
set_option maxRecDepth 100000 in
set_option maxHeartbeats 4000000 in
theorem rList_any (h : RD w O rB r) (pre : ByteArray) : Calls Try.prog 72 #[.pointer (some ⟨rB, 0, none⟩), .string pre] w fun e w' => ∃ a n k, e = .returned (.slice a n k) ∧ OwnS w' w.heap.size (.slice a n k) n (lsR r.fs pre) ∧ Below w.heap.size w w' := by
 obtain ⟨⟨ok, srt⟩, a, n, k, l, hm, hl⟩ := h
 have hn : n = r.fs.length := by rw [← hl, List.length_map]; exact hm.row.len
 have hnl := hm.row.len
 have HM := Lib.hid (And.intro hm (And.intro hl hn))
 have HN := Lib.hid hnl
 have h256 : n ≤ 256 := by have := ok.cnt; omega
 have hax : n ≤ 9223372036854775807 := by omega
 have c0 := hm.box.cells.2.1
 clear hm hl hn hnl ok srt
 go_enter Try.func72, Try.ntmps72
 go_wp2_with fail
 clear c0
 go_loopw [5, 6] (fun v i wr => ∃ (t : Nat) (am : Option Addr) (m km : Nat), t ≤ n ∧ m ≤ t ∧ i = .int .i64 (t : Int) ∧ v = .slice am m km ∧ OwnS wr w.heap.size (.slice am m km) m (lsR (r.fs.take t) pre) ∧ Below w.heap.size w wr) (fun _ i _ => n - (intOf i).toNat)
 case atStart => exact ⟨0, none, 0, 0, Nat.zero_le _, Nat.le_refl _, rfl, rfl, ⟨rfl, rfl, .inl ⟨rfl, rfl⟩⟩, Below.refl _ _⟩
 case round =>
  obtain ⟨t, am, m, km, ht, hmt, rfl, rfl, hfl, hbw⟩ := hrel
  have HFL := Lib.hid hfl
  have HBW := Lib.hid hbw
  have c0 := (HM.out.1.below hbw).box.cells.2.1
  clear hfl hbw
  by_cases hlt : t < n
  ·have j1 : (t : Int) < (n : Int) := by omega
   have j2 : (0 : Int) ≤ (t : Int) := by omega
   have hx : ∃ x, l[t]? = some x := ⟨_, List.getElem?_eq_getElem (by rw [← HN.out]; exact hlt)⟩
   obtain ⟨x, hx⟩ := hx
   have hsn := lsR_snoc (fs := r.fs) (t := t) (p := x.1) (by rw [← HM.out.2.1, List.getElem?_map, hx]; rfl) pre
   obtain ⟨g, hag, _, cx0, _, _⟩ := (HM.out.1.below HBW.out).row.at_ hx
   subst hag
   obtain ⟨s, hs⟩ : ∃ s, s = x.1.1 := ⟨_, rfl⟩
   rw [← hs] at cx0 hsn
   clear hx hs
   by_cases hle : pre.size ≤ s.size
   ·have i1 : (pre.size : Int) ≤ (s.size : Int) := by omega
    have i2 : (0 : Int) ≤ (pre.size : Int) := by omega
    by_cases hp : ((s.extract 0 pre.size).toList == pre.toList) = true
    ·have hpre : preB pre s = true := by unfold preB; rw [if_pos hle]; exact hp
     rw [if_pos hpre] at hsn
     have HSN := Lib.hid hsn
     clear hpre hsn
     go_wp2_with (at_builtin; refine dpl_append1 rfl _ _ 9 63 16 (.string ⟨#[]⟩) und_strs4 info_str4 rfl (by decide) rfl w.heap.size am m km ((lsR (r.fs.take t) pre).map encStr) rfl (HFL.out.2.alloc _) wr.heap.size (.string s) rfl ?_ rfl (by omega) (by simp; exact Nat.le_trans HBW.out.size (Nat.le_succ _)) ?_)
     ·simp [go_sem]
     intro a3 k3 X3 own3 gr3 loc3
     have HO3 := Lib.hid own3
     have hb3 : Below w.heap.size w X3 := (HBW.out.alloc HBW.out.size _).grown gr3 (by simp; exact Nat.le_trans HBW.out.size (Nat.le_succ _)) (fun i hi => (HFL.out.2.lt i hi).1)
     have HB3 := Lib.hid hb3
     clear own3 gr3 loc3 hb3 cx0 c0
     go_wp2
     go_roundw
     case rel =>
      refine ⟨t + 1, a3, m + 1, k3, by omega, by omega, by go_num, rfl, ⟨?_, ?_⟩, HB3.out⟩
      ·rw [HSN.out, List.length_append, ← HFL.out.1]; rfl
      ·rw [HSN.out, List.map_append, List.map_cons, List.map_nil, enc_nmL]
       exact HO3.out
     case measure => simp [intOf]; omega
    ·have hp2 : ((s.extract 0 pre.size).toList == pre.toList) = false := by simpa using hp
     have hpre : preB pre s = false := by unfold preB; rw [if_pos hle]; exact hp2
     rw [hpre, if_neg (by decide), List.append_nil] at hsn
     have HSN := Lib.hid hsn
     clear hpre hsn hp
     go_wp2
     go_roundw
     case rel => exact ⟨t + 1, am, m, km, by omega, by omega, by go_num, rfl, by rw [HSN.out]; exact HFL.out, HBW.out⟩
     case measure => simp [intOf]; omega
   ·have i1 : ¬ (pre.size : Int) ≤ (s.size : Int) := by omega
    have hpre : preB pre s = false := by unfold preB; rw [if_neg hle]
    rw [hpre, if_neg (by decide), List.append_nil] at hsn
    have HSN := Lib.hid hsn
    clear hpre hsn hle
    go_wp2
    go_roundw
    case rel => exact ⟨t + 1, am, m, km, by omega, by omega, by go_num, rfl, by rw [HSN.out]; exact HFL.out, HBW.out⟩
    case measure => simp [intOf]; omega
  ·have j1 : (n : Int) ≤ (t : Int) := by omega
   have hall : r.fs.take t = r.fs := List.take_of_length_le (by rw [← HM.out.2.2]; omega)
   have hf := HFL.out
   rw [hall] at hf
   have HF := Lib.hid hf
   clear hall hlt hf
   go_wp2
   go_ret
   first
    | exact ⟨am, m, km, rfl, HF.out, HBW.out⟩
    | exact ⟨am, m, km, HF.out, HBW.out⟩
end Go.Proofs.Ytlkhphhmhffdjaa
