import Derived.Test.YtlkhphhmhffdjaaK07
set_option linter.unusedSimpArgs false
set_option linter.unusedVariables false
namespace Go.Proofs.Ytlkhphhmhffdjaa
open Go.RowKit Go.MapKept Go.Sort
variable {w w' W X : World} {O O' : Nat → Prop} {dB : Nat} {d : Dk4}
theorem take_succ_eq {α : Type} {a b : List α} {i : Nat} {x y : α} (ha : a[i]? = some x) (hb : b[i]? = some y) : a.take (i + 1) = b.take (i + 1) ↔ a.take i = b.take i ∧ x = y := by
 rw [List.take_add_one, List.take_add_one, ha, hb]
 have l1 := (List.getElem?_eq_some_iff.1 ha).1
 have l2 := (List.getElem?_eq_some_iff.1 hb).1
 constructor
 ·intro h
  have := List.append_inj' h rfl
  simpa using this
 ·rintro ⟨h, rfl⟩
  rw [h]
set_option maxRecDepth 100000 in
set_option maxHeartbeats 8000000 in
theorem sameFiles_any {a b : Option Addr} {n m ka kb : Nat} {l1 l2 : List (PF × Value)} (h1 : RdF4 w a ka l1) (h2 : RdF4 w b kb l2) (hn : n = l1.length) (hm : m = l2.length) :
  Calls Try.prog 9 #[.slice a n ka, .slice b m kb] w fun e w' => e = .returned (.bool (decide (l1.map (·.1) = l2.map (·.1)))) ∧ Below w.heap.size w w' := by
 have hnx : n ≤ 9223372036854775807 := by have := h1.cap; unfold maxLen at this; omega
 have hmx : m ≤ 9223372036854775807 := by have := h2.cap; unfold maxLen at this; omega
 have H1 := Lib.hid h1
 have H2 := Lib.hid h2
 have HN := Lib.hid (And.intro hn hm)
 have hres : ∃ r, r = decide (l1.map (·.1) = l2.map (·.1)) := ⟨_, rfl⟩
 obtain ⟨r, hr⟩ := hres
 rw [← hr]
 have HR := Lib.hid hr
 clear h1 h2 hn hm hr
 go_enter Try.func9, Try.ntmps9
 by_cases hnm : n = m
 ·subst hnm
  go_wp2_with fail
  go_loopw [5] (fun i wr => ∃ t : Nat, t ≤ n ∧ i = .int .i64 (t : Int) ∧ Below w.heap.size w wr ∧ (l1.map (·.1)).take t = (l2.map (·.1)).take t) (fun i _ => n - (intOf i).toNat)
  case atStart => exact ⟨0, Nat.zero_le _, rfl, Below.refl _ _, by simp⟩
  case round =>
   obtain ⟨t, ht, rfl, hb, htk⟩ := hrel
   have HBW := Lib.hid hb
   have HTK := Lib.hid htk
   clear hb htk
   by_cases hlt : t < n
   ·have j1 : (t : Int) < (n : Int) := by omega
    have j2 : (0 : Int) ≤ (t : Int) := by omega
    have hx : ∃ x, l1[t]? = some x := ⟨_, List.getElem?_eq_getElem (by rw [← HN.out.1]; exact hlt)⟩
    obtain ⟨x, hx⟩ := hx
    have hy : ∃ y, l2[t]? = some y := ⟨_, List.getElem?_eq_getElem (by rw [← HN.out.2]; omega)⟩
    obtain ⟨y, hy⟩ := hy
    have hcx := (H1.out.later HBW.out).cel t x hx
    obtain ⟨g, hcx⟩ := hcx
    obtain ⟨off, hcx⟩ := hcx
    have ea := hcx.1
    subst ea
    have hcy := (H2.out.later HBW.out).cel t y hy
    obtain ⟨g2, hcy⟩ := hcy
    obtain ⟨off2, hcy⟩ := hcy
    have eb := hcy.1
    subst eb
    have hdx := (H1.out.later HBW.out).dat x (List.mem_of_getElem? hx)
    obtain ⟨ax, hdx⟩ := hdx
    obtain ⟨cx, hdx⟩ := hdx
    have hdy := (H2.out.later HBW.out).dat y (List.mem_of_getElem? hy)
    obtain ⟨ay, hdy⟩ := hdy
    obtain ⟨cy, hdy⟩ := hdy
    obtain ⟨⟨xn, xd, xs⟩, xv⟩ := x
    obtain ⟨⟨yn, yd, ys⟩, yv⟩ := y
    simp only at hcx hcy hdx hdy
    have hxv := hdx.1
    have hyv := hdy.1
    have hnx2 : ∃ nx, nx = xd.length := ⟨_, rfl⟩
    obtain ⟨nx, hnx2⟩ := hnx2
    have hny2 : ∃ ny, ny = yd.length := ⟨_, rfl⟩
    obtain ⟨ny, hny2⟩ := hny2
    rw [← hnx2] at hxv
    rw [← hny2] at hyv
    subst hxv
    subst hyv
    have c0 := hcx.2.1
    have c1 := hcx.2.2.1
    have c2 := hcx.2.2.2
    have e0 := hcy.2.1
    have e1 := hcy.2.2.1
    have e2 := hcy.2.2.2
    have lg := World.block_lt_of_cell? _ _ c0
    have lg2 := World.block_lt_of_cell? _ _ e0
    simp only at lg lg2
    have HRD := Lib.hid (And.intro hdx.2 hdy.2)
    have hst : ((l1.map (·.1)).take (t + 1) = (l2.map (·.1)).take (t + 1)) ↔ (l1.map (·.1)).take t = (l2.map (·.1)).take t ∧ ((xn, xd, xs) : PF) = (yn, yd, ys) := take_succ_eq (by rw [List.getElem?_map, hx]; rfl) (by rw [List.getElem?_map, hy]; rfl)
    have hne : ((xn, xd, xs) : PF) ≠ (yn, yd, ys) → r = false := by
     intro h
     rw [HR.out]
     simp only [decide_eq_false_iff_not]
     intro hall
     exact h (hst.1 (by rw [hall])).2
    have HST := Lib.hid (And.intro hst hne)
    clear hx hy hcx hcy hdx hdy hnx2 hny2 hst hne
    by_cases hq : xn = yn
    ·subst hq
     have s1 : (xn.toList == xn.toList) = true := by simp
     by_cases hs : xs = ys
     ·subst hs
      go_upto_region 6 with fail
      have BD : Below wr.heap.size wr wr.drew := (Below.refl _ _).drew
      refine wp_region_noPanic ?_
      refine wp_region_anyE (S := fun wx => Below wr.heap.size wr wx) (E := fun j => true) (by kernel_rfl) ?_
      have hHeld : Below wr.heap.size wr wr.drew := BD
      have HB := Lib.hid BD
      have hZ0 : ∃ z, z = wr.drew := ⟨_, rfl⟩
      obtain ⟨Z0, hZ0⟩ := hZ0
      rw [← hZ0] at HB hHeld ⊢
      clear hZ0 BD
      refine AnyE.take (i := 0) (.slice (some ⟨g, off, none⟩) n ka) rfl (by kernel_rfl) (by kernel_rfl) (by kernel_rfl) (by kernel_rfl) (fun _ _ _ h => h) (.inl ⟨by kernel_rfl, fun wy hy => by (go_simp; done)⟩) hHeld ?_
      try simp only [Act.put, List.setIfInBounds_toArray, List.set_cons_zero, List.set_cons_succ]
      refine AnyE.take (i := 1) (.int .i64 (t : Int)) rfl (by kernel_rfl) (by kernel_rfl) (by kernel_rfl) (by kernel_rfl) (fun _ _ _ h => h) (.inl ⟨by kernel_rfl, fun wy hy => by (go_simp; done)⟩) hHeld ?_
      try simp only [Act.put, List.setIfInBounds_toArray, List.set_cons_zero, List.set_cons_succ]
      refine AnyE.take (i := 2) (.pointer (some ⟨g, off + t * 3, none⟩)) rfl (by kernel_rfl) (by kernel_rfl) (by kernel_rfl) (by kernel_rfl) (fun _ _ _ h => h) (.inl ⟨by kernel_rfl, fun wy hy => by (go_simp; done)⟩) hHeld ?_
      try simp only [Act.put, List.setIfInBounds_toArray, List.set_cons_zero, List.set_cons_succ]
      refine AnyE.take (i := 3) (.pointer (some ⟨g, off + t * 3, none⟩)) rfl (by kernel_rfl) (by kernel_rfl) (by kernel_rfl) (by kernel_rfl) (fun _ _ _ h => h) (.inl ⟨by kernel_rfl, fun wy hy => by (go_simp; done)⟩) hHeld ?_
      try simp only [Act.put, List.setIfInBounds_toArray, List.set_cons_zero, List.set_cons_succ]
      refine AnyE.take (i := 4) (.string xn) rfl (by kernel_rfl) (by kernel_rfl) (by kernel_rfl) (by kernel_rfl) (fun _ _ _ h => h) (.inl ⟨by kernel_rfl, fun wy hy => by (have q0 := (hy.cell (p := ⟨g, off + t * 3, none⟩) lg).trans c0; go_simp; done)⟩) hHeld ?_
      try simp only [Act.put, List.setIfInBounds_toArray, List.set_cons_zero, List.set_cons_succ]
      refine AnyE.take (i := 5) (.slice (some ⟨g2, off2, none⟩) n kb) rfl (by kernel_rfl) (by kernel_rfl) (by kernel_rfl) (by kernel_rfl) (fun _ _ _ h => h) (.inl ⟨by kernel_rfl, fun wy hy => by (go_simp; done)⟩) hHeld ?_
      try simp only [Act.put, List.setIfInBounds_toArray, List.set_cons_zero, List.set_cons_succ]
      refine AnyE.take (i := 6) (.int .i64 (t : Int)) rfl (by kernel_rfl) (by kernel_rfl) (by kernel_rfl) (by kernel_rfl) (fun _ _ _ h => h) (.inl ⟨by kernel_rfl, fun wy hy => by (go_simp; done)⟩) hHeld ?_
      try simp only [Act.put, List.setIfInBounds_toArray, List.set_cons_zero, List.set_cons_succ]
      refine AnyE.take (i := 7) (.pointer (some ⟨g2, off2 + t * 3, none⟩)) rfl (by kernel_rfl) (by kernel_rfl) (by kernel_rfl) (by kernel_rfl) (fun _ _ _ h => h) (.inl ⟨by kernel_rfl, fun wy hy => by (go_simp; done)⟩) hHeld ?_
      try simp only [Act.put, List.setIfInBounds_toArray, List.set_cons_zero, List.set_cons_succ]
      refine AnyE.take (i := 8) (.pointer (some ⟨g2, off2 + t * 3, none⟩)) rfl (by kernel_rfl) (by kernel_rfl) (by kernel_rfl) (by kernel_rfl) (fun _ _ _ h => h) (.inl ⟨by kernel_rfl, fun wy hy => by (go_simp; done)⟩) hHeld ?_
      try simp only [Act.put, List.setIfInBounds_toArray, List.set_cons_zero, List.set_cons_succ]
      refine AnyE.take (i := 9) (.string xn) rfl (by kernel_rfl) (by kernel_rfl) (by kernel_rfl) (by kernel_rfl) (fun _ _ _ h => h) (.inl ⟨by kernel_rfl, fun wy hy => by (have q0 := (hy.cell (p := ⟨g2, off2 + t * 3, none⟩) lg2).trans e0; go_simp; done)⟩) hHeld ?_
      try simp only [Act.put, List.setIfInBounds_toArray, List.set_cons_zero, List.set_cons_succ]
      refine AnyE.take (i := 10) (.bool false) rfl (by kernel_rfl) (by kernel_rfl) (by kernel_rfl) (by kernel_rfl) (fun _ _ _ h => h) (.inl ⟨by kernel_rfl, fun wy hy => by (go_simp; done)⟩) hHeld ?_
      try simp only [Act.put, List.setIfInBounds_toArray, List.set_cons_zero, List.set_cons_succ]
      refine AnyE.take (i := 11) (.bool false) rfl (by kernel_rfl) (by kernel_rfl) (by kernel_rfl) (by kernel_rfl) (fun _ _ _ h => h) (.inl ⟨by kernel_rfl, fun wy hy => by (go_simp; done)⟩) hHeld ?_
      try simp only [Act.put, List.setIfInBounds_toArray, List.set_cons_zero, List.set_cons_succ]
      refine AnyE.take (i := 12) (.slice (some ⟨g, off, none⟩) n ka) rfl (by kernel_rfl) (by kernel_rfl) (by kernel_rfl) (by kernel_rfl) (fun _ _ _ h => h) (.inl ⟨by kernel_rfl, fun wy hy => by (go_simp; done)⟩) hHeld ?_
      try simp only [Act.put, List.setIfInBounds_toArray, List.set_cons_zero, List.set_cons_succ]
      refine AnyE.take (i := 13) (.int .i64 (t : Int)) rfl (by kernel_rfl) (by kernel_rfl) (by kernel_rfl) (by kernel_rfl) (fun _ _ _ h => h) (.inl ⟨by kernel_rfl, fun wy hy => by (go_simp; done)⟩) hHeld ?_
      try simp only [Act.put, List.setIfInBounds_toArray, List.set_cons_zero, List.set_cons_succ]
      refine AnyE.take (i := 14) (.pointer (some ⟨g, off + t * 3, none⟩)) rfl (by kernel_rfl) (by kernel_rfl) (by kernel_rfl) (by kernel_rfl) (fun _ _ _ h => h) (.inl ⟨by kernel_rfl, fun wy hy => by (go_simp; done)⟩) hHeld ?_
      try simp only [Act.put, List.setIfInBounds_toArray, List.set_cons_zero, List.set_cons_succ]
      refine AnyE.take (i := 15) (.pointer (some ⟨g, off + t * 3 + 2, none⟩)) rfl (by kernel_rfl) (by kernel_rfl) (by kernel_rfl) (by kernel_rfl) (fun _ _ _ h => h) (.inl ⟨by kernel_rfl, fun wy hy => by (go_simp; done)⟩) hHeld ?_
      try simp only [Act.put, List.setIfInBounds_toArray, List.set_cons_zero, List.set_cons_succ]
      refine AnyE.take (i := 16) (.int .i64 (xs : Int)) rfl (by kernel_rfl) (by kernel_rfl) (by kernel_rfl) (by kernel_rfl) (fun _ _ _ h => h) (.inl ⟨by kernel_rfl, fun wy hy => by (have q0 := (hy.cell (p := ⟨g, off + t * 3 + 2, none⟩) lg).trans c2; go_simp; done)⟩) hHeld ?_
      try simp only [Act.put, List.setIfInBounds_toArray, List.set_cons_zero, List.set_cons_succ]
      refine AnyE.take (i := 17) (.slice (some ⟨g2, off2, none⟩) n kb) rfl (by kernel_rfl) (by kernel_rfl) (by kernel_rfl) (by kernel_rfl) (fun _ _ _ h => h) (.inl ⟨by kernel_rfl, fun wy hy => by (go_simp; done)⟩) hHeld ?_
      try simp only [Act.put, List.setIfInBounds_toArray, List.set_cons_zero, List.set_cons_succ]
      refine AnyE.take (i := 18) (.int .i64 (t : Int)) rfl (by kernel_rfl) (by kernel_rfl) (by kernel_rfl) (by kernel_rfl) (fun _ _ _ h => h) (.inl ⟨by kernel_rfl, fun wy hy => by (go_simp; done)⟩) hHeld ?_
      try simp only [Act.put, List.setIfInBounds_toArray, List.set_cons_zero, List.set_cons_succ]
      refine AnyE.take (i := 19) (.pointer (some ⟨g2, off2 + t * 3, none⟩)) rfl (by kernel_rfl) (by kernel_rfl) (by kernel_rfl) (by kernel_rfl) (fun _ _ _ h => h) (.inl ⟨by kernel_rfl, fun wy hy => by (go_simp; done)⟩) hHeld ?_
      try simp only [Act.put, List.setIfInBounds_toArray, List.set_cons_zero, List.set_cons_succ]
      refine AnyE.take (i := 20) (.pointer (some ⟨g2, off2 + t * 3 + 2, none⟩)) rfl (by kernel_rfl) (by kernel_rfl) (by kernel_rfl) (by kernel_rfl) (fun _ _ _ h => h) (.inl ⟨by kernel_rfl, fun wy hy => by (go_simp; done)⟩) hHeld ?_
      try simp only [Act.put, List.setIfInBounds_toArray, List.set_cons_zero, List.set_cons_succ]
      refine AnyE.take (i := 21) (.int .i64 (xs : Int)) rfl (by kernel_rfl) (by kernel_rfl) (by kernel_rfl) (by kernel_rfl) (fun _ _ _ h => h) (.inl ⟨by kernel_rfl, fun wy hy => by (have q0 := (hy.cell (p := ⟨g2, off2 + t * 3 + 2, none⟩) lg2).trans e2; go_simp; done)⟩) hHeld ?_
      try simp only [Act.put, List.setIfInBounds_toArray, List.set_cons_zero, List.set_cons_succ]
      refine AnyE.take (i := 22) (.bool false) rfl (by kernel_rfl) (by kernel_rfl) (by kernel_rfl) (by kernel_rfl) (fun _ _ _ h => h) (.inl ⟨by kernel_rfl, fun wy hy => by (go_simp; done)⟩) hHeld ?_
      try simp only [Act.put, List.setIfInBounds_toArray, List.set_cons_zero, List.set_cons_succ]
      refine AnyE.take (i := 23) (.bool false) rfl (by kernel_rfl) (by kernel_rfl) (by kernel_rfl) (by kernel_rfl) (fun _ _ _ h => h) (.inl ⟨by kernel_rfl, fun wy hy => by (go_simp; done)⟩) hHeld ?_
      try simp only [Act.put, List.setIfInBounds_toArray, List.set_cons_zero, List.set_cons_succ]
      refine AnyE.take (i := 24) (.bool false) rfl (by kernel_rfl) (by kernel_rfl) (by kernel_rfl) (by kernel_rfl) (fun _ _ _ h => h) (.inl ⟨by kernel_rfl, fun wy hy => by (go_simp; done)⟩) hHeld ?_
      try simp only [Act.put, List.setIfInBounds_toArray, List.set_cons_zero, List.set_cons_succ]
      refine AnyE.take (i := 25) (.slice (some ⟨g, off, none⟩) n ka) rfl (by kernel_rfl) (by kernel_rfl) (by kernel_rfl) (by kernel_rfl) (fun _ _ _ h => h) (.inl ⟨by kernel_rfl, fun wy hy => by (go_simp; done)⟩) hHeld ?_
      try simp only [Act.put, List.setIfInBounds_toArray, List.set_cons_zero, List.set_cons_succ]
      refine AnyE.take (i := 26) (.int .i64 (t : Int)) rfl (by kernel_rfl) (by kernel_rfl) (by kernel_rfl) (by kernel_rfl) (fun _ _ _ h => h) (.inl ⟨by kernel_rfl, fun wy hy => by (go_simp; done)⟩) hHeld ?_
      try simp only [Act.put, List.setIfInBounds_toArray, List.set_cons_zero, List.set_cons_succ]
      refine AnyE.take (i := 27) (.pointer (some ⟨g, off + t * 3, none⟩)) rfl (by kernel_rfl) (by kernel_rfl) (by kernel_rfl) (by kernel_rfl) (fun _ _ _ h => h) (.inl ⟨by kernel_rfl, fun wy hy => by (go_simp; done)⟩) hHeld ?_
      try simp only [Act.put, List.setIfInBounds_toArray, List.set_cons_zero, List.set_cons_succ]
      refine AnyE.take (i := 28) (.pointer (some ⟨g, off + t * 3 + 1, none⟩)) rfl (by kernel_rfl) (by kernel_rfl) (by kernel_rfl) (by kernel_rfl) (fun _ _ _ h => h) (.inl ⟨by kernel_rfl, fun wy hy => by (go_simp; done)⟩) hHeld ?_
      try simp only [Act.put, List.setIfInBounds_toArray, List.set_cons_zero, List.set_cons_succ]
      refine AnyE.take (i := 29) (.slice ax nx cx) rfl (by kernel_rfl) (by kernel_rfl) (by kernel_rfl) (by kernel_rfl) (fun _ _ _ h => h) (.inl ⟨by kernel_rfl, fun wy hy => by (have q0 := (hy.cell (p := ⟨g, off + t * 3 + 1, none⟩) lg).trans c1; go_simp; done)⟩) hHeld ?_
      try simp only [Act.put, List.setIfInBounds_toArray, List.set_cons_zero, List.set_cons_succ]
      refine AnyE.take (i := 30) (.slice (some ⟨g2, off2, none⟩) n kb) rfl (by kernel_rfl) (by kernel_rfl) (by kernel_rfl) (by kernel_rfl) (fun _ _ _ h => h) (.inl ⟨by kernel_rfl, fun wy hy => by (go_simp; done)⟩) hHeld ?_
      try simp only [Act.put, List.setIfInBounds_toArray, List.set_cons_zero, List.set_cons_succ]
      refine AnyE.take (i := 31) (.int .i64 (t : Int)) rfl (by kernel_rfl) (by kernel_rfl) (by kernel_rfl) (by kernel_rfl) (fun _ _ _ h => h) (.inl ⟨by kernel_rfl, fun wy hy => by (go_simp; done)⟩) hHeld ?_
      try simp only [Act.put, List.setIfInBounds_toArray, List.set_cons_zero, List.set_cons_succ]
      refine AnyE.take (i := 32) (.pointer (some ⟨g2, off2 + t * 3, none⟩)) rfl (by kernel_rfl) (by kernel_rfl) (by kernel_rfl) (by kernel_rfl) (fun _ _ _ h => h) (.inl ⟨by kernel_rfl, fun wy hy => by (go_simp; done)⟩) hHeld ?_
      try simp only [Act.put, List.setIfInBounds_toArray, List.set_cons_zero, List.set_cons_succ]
      refine AnyE.take (i := 33) (.pointer (some ⟨g2, off2 + t * 3 + 1, none⟩)) rfl (by kernel_rfl) (by kernel_rfl) (by kernel_rfl) (by kernel_rfl) (fun _ _ _ h => h) (.inl ⟨by kernel_rfl, fun wy hy => by (go_simp; done)⟩) hHeld ?_
      try simp only [Act.put, List.setIfInBounds_toArray, List.set_cons_zero, List.set_cons_succ]
      refine AnyE.take (i := 34) (.slice ay ny cy) rfl (by kernel_rfl) (by kernel_rfl) (by kernel_rfl) (by kernel_rfl) (fun _ _ _ h => h) (.inl ⟨by kernel_rfl, fun wy hy => by (have q0 := (hy.cell (p := ⟨g2, off2 + t * 3 + 1, none⟩) lg2).trans e1; go_simp; done)⟩) hHeld ?_
      try simp only [Act.put, List.setIfInBounds_toArray, List.set_cons_zero, List.set_cons_succ]
      refine AnyE.one (i := 35) rfl (by kernel_rfl) (by kernel_rfl) (fun KK hK => ?_)
      go_simp
      go_at_call 31
      refine (same_any (HRD.out.1.later HB.out) (HRD.out.2.later HB.out)).mono ?_
      rintro e9 Z2 ⟨rfl, rfl⟩
      go_wp2_with fail
      refine hK.out _ _ ⟨fun _ => HB.out, ?_⟩
      have hHeld := HB.out
      clear hK
      try simp only [Act.put, List.setIfInBounds_toArray, List.set_cons_zero, List.set_cons_succ]
      refine AnyE.one (i := 36) rfl (by kernel_rfl) (by kernel_rfl) (fun KK hK => ?_)
      go_simp
      refine hK.out _ _ ⟨fun _ => HB.out, ?_⟩
      clear hK
      try simp only [Act.put, List.setIfInBounds_toArray, List.set_cons_zero, List.set_cons_succ]
      refine AnyE.one (i := 37) rfl (by kernel_rfl) (by kernel_rfl) (fun KK hK => ?_)
      go_simp
      refine hK.out _ _ ⟨fun _ => HB.out, ?_⟩
      clear hK
      try simp only [Act.put, List.setIfInBounds_toArray, List.set_cons_zero, List.set_cons_succ]
      refine AnyE.done (by kernel_rfl) (NoPanic.normal ?_) _
      have hZ9 : ∃ z, z = Z2 := ⟨_, rfl⟩
      obtain ⟨YY, hZ9⟩ := hZ9
      rw [← hZ9] at HB ⊢
      clear hHeld hZ9
      go_simp
      go_step
      by_cases hd : xd = yd
      ·have d1 : decide (xd = yd) = true := by simp [hd]
       rw [d1]
       go_wp2
       go_roundw
       case rel => exact ⟨t + 1, by omega, by go_num, HBW.out.trans (HB.out.mono HBW.out.size), HST.out.1.2 ⟨HTK.out, by rw [hd]⟩⟩
       case measure => simp [intOf]; omega
      ·have d1 : decide (xd = yd) = false := by simp [hd]
       have hrf := HST.out.2 (by intro h; exact hd (by injection h with _ h; injection h))
       rw [d1]
       go_wp2
       go_ret
       exact ⟨by first | rfl | (rw [hrf]; rfl) | (simp [hrf]; done), HBW.out.trans (HB.out.mono HBW.out.size)⟩
     ·have s2 : ¬ (xs : Int) = (ys : Int) := by omega
      have hrf := HST.out.2 (by intro h; exact hs (by injection h with _ h; injection h))
      have HS := Lib.hid hs
      clear hs
      go_upto_region 6 with fail
      have BD : Below wr.heap.size wr wr.drew := (Below.refl _ _).drew
      refine wp_region_noPanic ?_
      refine wp_region_anyE (S := fun wx => Below wr.heap.size wr wx) (E := fun j => true) (by kernel_rfl) ?_
      have hHeld : Below wr.heap.size wr wr.drew := BD
      have HB := Lib.hid BD
      have hZ0 : ∃ z, z = wr.drew := ⟨_, rfl⟩
      obtain ⟨Z0, hZ0⟩ := hZ0
      rw [← hZ0] at HB hHeld ⊢
      clear hZ0 BD
      refine AnyE.take (i := 0) (.slice (some ⟨g, off, none⟩) n ka) rfl (by kernel_rfl) (by kernel_rfl) (by kernel_rfl) (by kernel_rfl) (fun _ _ _ h => h) (.inl ⟨by kernel_rfl, fun wy hy => by (go_simp; done)⟩) hHeld ?_
      try simp only [Act.put, List.setIfInBounds_toArray, List.set_cons_zero, List.set_cons_succ]
      refine AnyE.take (i := 1) (.int .i64 (t : Int)) rfl (by kernel_rfl) (by kernel_rfl) (by kernel_rfl) (by kernel_rfl) (fun _ _ _ h => h) (.inl ⟨by kernel_rfl, fun wy hy => by (go_simp; done)⟩) hHeld ?_
      try simp only [Act.put, List.setIfInBounds_toArray, List.set_cons_zero, List.set_cons_succ]
      refine AnyE.take (i := 2) (.pointer (some ⟨g, off + t * 3, none⟩)) rfl (by kernel_rfl) (by kernel_rfl) (by kernel_rfl) (by kernel_rfl) (fun _ _ _ h => h) (.inl ⟨by kernel_rfl, fun wy hy => by (go_simp; done)⟩) hHeld ?_
      try simp only [Act.put, List.setIfInBounds_toArray, List.set_cons_zero, List.set_cons_succ]
      refine AnyE.take (i := 3) (.pointer (some ⟨g, off + t * 3, none⟩)) rfl (by kernel_rfl) (by kernel_rfl) (by kernel_rfl) (by kernel_rfl) (fun _ _ _ h => h) (.inl ⟨by kernel_rfl, fun wy hy => by (go_simp; done)⟩) hHeld ?_
      try simp only [Act.put, List.setIfInBounds_toArray, List.set_cons_zero, List.set_cons_succ]
      refine AnyE.take (i := 4) (.string xn) rfl (by kernel_rfl) (by kernel_rfl) (by kernel_rfl) (by kernel_rfl) (fun _ _ _ h => h) (.inl ⟨by kernel_rfl, fun wy hy => by (have q0 := (hy.cell (p := ⟨g, off + t * 3, none⟩) lg).trans c0; go_simp; done)⟩) hHeld ?_
      try simp only [Act.put, List.setIfInBounds_toArray, List.set_cons_zero, List.set_cons_succ]
      refine AnyE.take (i := 5) (.slice (some ⟨g2, off2, none⟩) n kb) rfl (by kernel_rfl) (by kernel_rfl) (by kernel_rfl) (by kernel_rfl) (fun _ _ _ h => h) (.inl ⟨by kernel_rfl, fun wy hy => by (go_simp; done)⟩) hHeld ?_
      try simp only [Act.put, List.setIfInBounds_toArray, List.set_cons_zero, List.set_cons_succ]
      refine AnyE.take (i := 6) (.int .i64 (t : Int)) rfl (by kernel_rfl) (by kernel_rfl) (by kernel_rfl) (by kernel_rfl) (fun _ _ _ h => h) (.inl ⟨by kernel_rfl, fun wy hy => by (go_simp; done)⟩) hHeld ?_
      try simp only [Act.put, List.setIfInBounds_toArray, List.set_cons_zero, List.set_cons_succ]
      refine AnyE.take (i := 7) (.pointer (some ⟨g2, off2 + t * 3, none⟩)) rfl (by kernel_rfl) (by kernel_rfl) (by kernel_rfl) (by kernel_rfl) (fun _ _ _ h => h) (.inl ⟨by kernel_rfl, fun wy hy => by (go_simp; done)⟩) hHeld ?_
      try simp only [Act.put, List.setIfInBounds_toArray, List.set_cons_zero, List.set_cons_succ]
      refine AnyE.take (i := 8) (.pointer (some ⟨g2, off2 + t * 3, none⟩)) rfl (by kernel_rfl) (by kernel_rfl) (by kernel_rfl) (by kernel_rfl) (fun _ _ _ h => h) (.inl ⟨by kernel_rfl, fun wy hy => by (go_simp; done)⟩) hHeld ?_
      try simp only [Act.put, List.setIfInBounds_toArray, List.set_cons_zero, List.set_cons_succ]
      refine AnyE.take (i := 9) (.string xn) rfl (by kernel_rfl) (by kernel_rfl) (by kernel_rfl) (by kernel_rfl) (fun _ _ _ h => h) (.inl ⟨by kernel_rfl, fun wy hy => by (have q0 := (hy.cell (p := ⟨g2, off2 + t * 3, none⟩) lg2).trans e0; go_simp; done)⟩) hHeld ?_
      try simp only [Act.put, List.setIfInBounds_toArray, List.set_cons_zero, List.set_cons_succ]
      refine AnyE.take (i := 10) (.bool false) rfl (by kernel_rfl) (by kernel_rfl) (by kernel_rfl) (by kernel_rfl) (fun _ _ _ h => h) (.inl ⟨by kernel_rfl, fun wy hy => by (go_simp; done)⟩) hHeld ?_
      try simp only [Act.put, List.setIfInBounds_toArray, List.set_cons_zero, List.set_cons_succ]
      refine AnyE.take (i := 11) (.bool false) rfl (by kernel_rfl) (by kernel_rfl) (by kernel_rfl) (by kernel_rfl) (fun _ _ _ h => h) (.inl ⟨by kernel_rfl, fun wy hy => by (go_simp; done)⟩) hHeld ?_
      try simp only [Act.put, List.setIfInBounds_toArray, List.set_cons_zero, List.set_cons_succ]
      refine AnyE.take (i := 12) (.slice (some ⟨g, off, none⟩) n ka) rfl (by kernel_rfl) (by kernel_rfl) (by kernel_rfl) (by kernel_rfl) (fun _ _ _ h => h) (.inl ⟨by kernel_rfl, fun wy hy => by (go_simp; done)⟩) hHeld ?_
      try simp only [Act.put, List.setIfInBounds_toArray, List.set_cons_zero, List.set_cons_succ]
      refine AnyE.take (i := 13) (.int .i64 (t : Int)) rfl (by kernel_rfl) (by kernel_rfl) (by kernel_rfl) (by kernel_rfl) (fun _ _ _ h => h) (.inl ⟨by kernel_rfl, fun wy hy => by (go_simp; done)⟩) hHeld ?_
      try simp only [Act.put, List.setIfInBounds_toArray, List.set_cons_zero, List.set_cons_succ]
      refine AnyE.take (i := 14) (.pointer (some ⟨g, off + t * 3, none⟩)) rfl (by kernel_rfl) (by kernel_rfl) (by kernel_rfl) (by kernel_rfl) (fun _ _ _ h => h) (.inl ⟨by kernel_rfl, fun wy hy => by (go_simp; done)⟩) hHeld ?_
      try simp only [Act.put, List.setIfInBounds_toArray, List.set_cons_zero, List.set_cons_succ]
      refine AnyE.take (i := 15) (.pointer (some ⟨g, off + t * 3 + 2, none⟩)) rfl (by kernel_rfl) (by kernel_rfl) (by kernel_rfl) (by kernel_rfl) (fun _ _ _ h => h) (.inl ⟨by kernel_rfl, fun wy hy => by (go_simp; done)⟩) hHeld ?_
      try simp only [Act.put, List.setIfInBounds_toArray, List.set_cons_zero, List.set_cons_succ]
      refine AnyE.take (i := 16) (.int .i64 (xs : Int)) rfl (by kernel_rfl) (by kernel_rfl) (by kernel_rfl) (by kernel_rfl) (fun _ _ _ h => h) (.inl ⟨by kernel_rfl, fun wy hy => by (have q0 := (hy.cell (p := ⟨g, off + t * 3 + 2, none⟩) lg).trans c2; go_simp; done)⟩) hHeld ?_
      try simp only [Act.put, List.setIfInBounds_toArray, List.set_cons_zero, List.set_cons_succ]
      refine AnyE.take (i := 17) (.slice (some ⟨g2, off2, none⟩) n kb) rfl (by kernel_rfl) (by kernel_rfl) (by kernel_rfl) (by kernel_rfl) (fun _ _ _ h => h) (.inl ⟨by kernel_rfl, fun wy hy => by (go_simp; done)⟩) hHeld ?_
      try simp only [Act.put, List.setIfInBounds_toArray, List.set_cons_zero, List.set_cons_succ]
      refine AnyE.take (i := 18) (.int .i64 (t : Int)) rfl (by kernel_rfl) (by kernel_rfl) (by kernel_rfl) (by kernel_rfl) (fun _ _ _ h => h) (.inl ⟨by kernel_rfl, fun wy hy => by (go_simp; done)⟩) hHeld ?_
      try simp only [Act.put, List.setIfInBounds_toArray, List.set_cons_zero, List.set_cons_succ]
      refine AnyE.take (i := 19) (.pointer (some ⟨g2, off2 + t * 3, none⟩)) rfl (by kernel_rfl) (by kernel_rfl) (by kernel_rfl) (by kernel_rfl) (fun _ _ _ h => h) (.inl ⟨by kernel_rfl, fun wy hy => by (go_simp; done)⟩) hHeld ?_
      try simp only [Act.put, List.setIfInBounds_toArray, List.set_cons_zero, List.set_cons_succ]
      refine AnyE.take (i := 20) (.pointer (some ⟨g2, off2 + t * 3 + 2, none⟩)) rfl (by kernel_rfl) (by kernel_rfl) (by kernel_rfl) (by kernel_rfl) (fun _ _ _ h => h) (.inl ⟨by kernel_rfl, fun wy hy => by (go_simp; done)⟩) hHeld ?_
      try simp only [Act.put, List.setIfInBounds_toArray, List.set_cons_zero, List.set_cons_succ]
      refine AnyE.take (i := 21) (.int .i64 (ys : Int)) rfl (by kernel_rfl) (by kernel_rfl) (by kernel_rfl) (by kernel_rfl) (fun _ _ _ h => h) (.inl ⟨by kernel_rfl, fun wy hy => by (have q0 := (hy.cell (p := ⟨g2, off2 + t * 3 + 2, none⟩) lg2).trans e2; go_simp; done)⟩) hHeld ?_
      try simp only [Act.put, List.setIfInBounds_toArray, List.set_cons_zero, List.set_cons_succ]
      refine AnyE.take (i := 22) (.bool true) rfl (by kernel_rfl) (by kernel_rfl) (by kernel_rfl) (by kernel_rfl) (fun _ _ _ h => h) (.inl ⟨by kernel_rfl, fun wy hy => by (go_simp; done)⟩) hHeld ?_
      try simp only [Act.put, List.setIfInBounds_toArray, List.set_cons_zero, List.set_cons_succ]
      refine AnyE.take (i := 23) (.bool true) rfl (by kernel_rfl) (by kernel_rfl) (by kernel_rfl) (by kernel_rfl) (fun _ _ _ h => h) (.inl ⟨by kernel_rfl, fun wy hy => by (go_simp; done)⟩) hHeld ?_
      try simp only [Act.put, List.setIfInBounds_toArray, List.set_cons_zero, List.set_cons_succ]
      refine AnyE.take (i := 24) (.bool true) rfl (by kernel_rfl) (by kernel_rfl) (by kernel_rfl) (by kernel_rfl) (fun _ _ _ h => h) (.inl ⟨by kernel_rfl, fun wy hy => by (go_simp; done)⟩) hHeld ?_
      try simp only [Act.put, List.setIfInBounds_toArray, List.set_cons_zero, List.set_cons_succ]
      refine AnyE.take (i := 25) undef rfl (by kernel_rfl) (by kernel_rfl) (by kernel_rfl) (by kernel_rfl) (fun _ _ _ h => h) (.inr ⟨by kernel_rfl, rfl⟩) hHeld ?_
      try simp only [Act.put, List.setIfInBounds_toArray, List.set_cons_zero, List.set_cons_succ]
      refine AnyE.take (i := 26) undef rfl (by kernel_rfl) (by kernel_rfl) (by kernel_rfl) (by kernel_rfl) (fun _ _ _ h => h) (.inr ⟨by kernel_rfl, rfl⟩) hHeld ?_
      try simp only [Act.put, List.setIfInBounds_toArray, List.set_cons_zero, List.set_cons_succ]
      refine AnyE.take (i := 27) undef rfl (by kernel_rfl) (by kernel_rfl) (by kernel_rfl) (by kernel_rfl) (fun _ _ _ h => h) (.inr ⟨by kernel_rfl, rfl⟩) hHeld ?_
      try simp only [Act.put, List.setIfInBounds_toArray, List.set_cons_zero, List.set_cons_succ]
      refine AnyE.take (i := 28) undef rfl (by kernel_rfl) (by kernel_rfl) (by kernel_rfl) (by kernel_rfl) (fun _ _ _ h => h) (.inr ⟨by kernel_rfl, rfl⟩) hHeld ?_
      try simp only [Act.put, List.setIfInBounds_toArray, List.set_cons_zero, List.set_cons_succ]
      refine AnyE.take (i := 29) undef rfl (by kernel_rfl) (by kernel_rfl) (by kernel_rfl) (by kernel_rfl) (fun _ _ _ h => h) (.inr ⟨by kernel_rfl, rfl⟩) hHeld ?_
      try simp only [Act.put, List.setIfInBounds_toArray, List.set_cons_zero, List.set_cons_succ]
      refine AnyE.take (i := 30) undef rfl (by kernel_rfl) (by kernel_rfl) (by kernel_rfl) (by kernel_rfl) (fun _ _ _ h => h) (.inr ⟨by kernel_rfl, rfl⟩) hHeld ?_
      try simp only [Act.put, List.setIfInBounds_toArray, List.set_cons_zero, List.set_cons_succ]
      refine AnyE.take (i := 31) undef rfl (by kernel_rfl) (by kernel_rfl) (by kernel_rfl) (by kernel_rfl) (fun _ _ _ h => h) (.inr ⟨by kernel_rfl, rfl⟩) hHeld ?_
      try simp only [Act.put, List.setIfInBounds_toArray, List.set_cons_zero, List.set_cons_succ]
      refine AnyE.take (i := 32) undef rfl (by kernel_rfl) (by kernel_rfl) (by kernel_rfl) (by kernel_rfl) (fun _ _ _ h => h) (.inr ⟨by kernel_rfl, rfl⟩) hHeld ?_
      try simp only [Act.put, List.setIfInBounds_toArray, List.set_cons_zero, List.set_cons_succ]
      refine AnyE.take (i := 33) undef rfl (by kernel_rfl) (by kernel_rfl) (by kernel_rfl) (by kernel_rfl) (fun _ _ _ h => h) (.inr ⟨by kernel_rfl, rfl⟩) hHeld ?_
      try simp only [Act.put, List.setIfInBounds_toArray, List.set_cons_zero, List.set_cons_succ]
      refine AnyE.take (i := 34) undef rfl (by kernel_rfl) (by kernel_rfl) (by kernel_rfl) (by kernel_rfl) (fun _ _ _ h => h) (.inr ⟨by kernel_rfl, rfl⟩) hHeld ?_
      try simp only [Act.put, List.setIfInBounds_toArray, List.set_cons_zero, List.set_cons_succ]
      refine AnyE.take (i := 35) undef rfl (by kernel_rfl) (by kernel_rfl) (by kernel_rfl) (by kernel_rfl) (fun _ _ _ h => h) (.inr ⟨by kernel_rfl, rfl⟩) hHeld ?_
      try simp only [Act.put, List.setIfInBounds_toArray, List.set_cons_zero, List.set_cons_succ]
      refine AnyE.take (i := 36) undef rfl (by kernel_rfl) (by kernel_rfl) (by kernel_rfl) (by kernel_rfl) (fun _ _ _ h => h) (.inr ⟨by kernel_rfl, rfl⟩) hHeld ?_
      try simp only [Act.put, List.setIfInBounds_toArray, List.set_cons_zero, List.set_cons_succ]
      refine AnyE.take (i := 37) (.bool true) rfl (by kernel_rfl) (by kernel_rfl) (by kernel_rfl) (by kernel_rfl) (fun _ _ _ h => h) (.inl ⟨by kernel_rfl, fun wy hy => by (go_simp; done)⟩) hHeld ?_
      try simp only [Act.put, List.setIfInBounds_toArray, List.set_cons_zero, List.set_cons_succ]
      refine AnyE.done (by kernel_rfl) (NoPanic.normal ?_) _
      have hZ9 : ∃ z, z = Z0 := ⟨_, rfl⟩
      obtain ⟨YY, hZ9⟩ := hZ9
      rw [← hZ9] at HB ⊢
      clear hHeld hZ9
      go_simp
      go_step
      go_wp2
      go_ret
      exact ⟨by first | rfl | (rw [hrf]; rfl) | (simp [hrf]; done), HBW.out.trans (HB.out.mono HBW.out.size)⟩
    ·have s1 : (xn.toList == yn.toList) = false := by
      rw [ByteArray.toList_eq, ByteArray.toList_eq]
      simp only [beq_eq_false_iff_ne, ne_eq]
      intro e
      exact hq (ByteArray.ext (Array.toList_inj.1 e))
     have hrf := HST.out.2 (by intro h; exact hq (by injection h))
     have HQ := Lib.hid hq
     clear hq
     go_upto_region 6 with fail
     have BD : Below wr.heap.size wr wr.drew := (Below.refl _ _).drew
     refine wp_region_noPanic ?_
     refine wp_region_anyE (S := fun wx => Below wr.heap.size wr wx) (E := fun j => true) (by kernel_rfl) ?_
     have hHeld : Below wr.heap.size wr wr.drew := BD
     have HB := Lib.hid BD
     have hZ0 : ∃ z, z = wr.drew := ⟨_, rfl⟩
     obtain ⟨Z0, hZ0⟩ := hZ0
     rw [← hZ0] at HB hHeld ⊢
     clear hZ0 BD
     refine AnyE.take (i := 0) (.slice (some ⟨g, off, none⟩) n ka) rfl (by kernel_rfl) (by kernel_rfl) (by kernel_rfl) (by kernel_rfl) (fun _ _ _ h => h) (.inl ⟨by kernel_rfl, fun wy hy => by (go_simp; done)⟩) hHeld ?_
     try simp only [Act.put, List.setIfInBounds_toArray, List.set_cons_zero, List.set_cons_succ]
     refine AnyE.take (i := 1) (.int .i64 (t : Int)) rfl (by kernel_rfl) (by kernel_rfl) (by kernel_rfl) (by kernel_rfl) (fun _ _ _ h => h) (.inl ⟨by kernel_rfl, fun wy hy => by (go_simp; done)⟩) hHeld ?_
     try simp only [Act.put, List.setIfInBounds_toArray, List.set_cons_zero, List.set_cons_succ]
     refine AnyE.take (i := 2) (.pointer (some ⟨g, off + t * 3, none⟩)) rfl (by kernel_rfl) (by kernel_rfl) (by kernel_rfl) (by kernel_rfl) (fun _ _ _ h => h) (.inl ⟨by kernel_rfl, fun wy hy => by (go_simp; done)⟩) hHeld ?_
     try simp only [Act.put, List.setIfInBounds_toArray, List.set_cons_zero, List.set_cons_succ]
     refine AnyE.take (i := 3) (.pointer (some ⟨g, off + t * 3, none⟩)) rfl (by kernel_rfl) (by kernel_rfl) (by kernel_rfl) (by kernel_rfl) (fun _ _ _ h => h) (.inl ⟨by kernel_rfl, fun wy hy => by (go_simp; done)⟩) hHeld ?_
     try simp only [Act.put, List.setIfInBounds_toArray, List.set_cons_zero, List.set_cons_succ]
     refine AnyE.take (i := 4) (.string xn) rfl (by kernel_rfl) (by kernel_rfl) (by kernel_rfl) (by kernel_rfl) (fun _ _ _ h => h) (.inl ⟨by kernel_rfl, fun wy hy => by (have q0 := (hy.cell (p := ⟨g, off + t * 3, none⟩) lg).trans c0; go_simp; done)⟩) hHeld ?_
     try simp only [Act.put, List.setIfInBounds_toArray, List.set_cons_zero, List.set_cons_succ]
     refine AnyE.take (i := 5) (.slice (some ⟨g2, off2, none⟩) n kb) rfl (by kernel_rfl) (by kernel_rfl) (by kernel_rfl) (by kernel_rfl) (fun _ _ _ h => h) (.inl ⟨by kernel_rfl, fun wy hy => by (go_simp; done)⟩) hHeld ?_
     try simp only [Act.put, List.setIfInBounds_toArray, List.set_cons_zero, List.set_cons_succ]
     refine AnyE.take (i := 6) (.int .i64 (t : Int)) rfl (by kernel_rfl) (by kernel_rfl) (by kernel_rfl) (by kernel_rfl) (fun _ _ _ h => h) (.inl ⟨by kernel_rfl, fun wy hy => by (go_simp; done)⟩) hHeld ?_
     try simp only [Act.put, List.setIfInBounds_toArray, List.set_cons_zero, List.set_cons_succ]
     refine AnyE.take (i := 7) (.pointer (some ⟨g2, off2 + t * 3, none⟩)) rfl (by kernel_rfl) (by kernel_rfl) (by kernel_rfl) (by kernel_rfl) (fun _ _ _ h => h) (.inl ⟨by kernel_rfl, fun wy hy => by (go_simp; done)⟩) hHeld ?_
     try simp only [Act.put, List.setIfInBounds_toArray, List.set_cons_zero, List.set_cons_succ]
     refine AnyE.take (i := 8) (.pointer (some ⟨g2, off2 + t * 3, none⟩)) rfl (by kernel_rfl) (by kernel_rfl) (by kernel_rfl) (by kernel_rfl) (fun _ _ _ h => h) (.inl ⟨by kernel_rfl, fun wy hy => by (go_simp; done)⟩) hHeld ?_
     try simp only [Act.put, List.setIfInBounds_toArray, List.set_cons_zero, List.set_cons_succ]
     refine AnyE.take (i := 9) (.string yn) rfl (by kernel_rfl) (by kernel_rfl) (by kernel_rfl) (by kernel_rfl) (fun _ _ _ h => h) (.inl ⟨by kernel_rfl, fun wy hy => by (have q0 := (hy.cell (p := ⟨g2, off2 + t * 3, none⟩) lg2).trans e0; go_simp; done)⟩) hHeld ?_
     try simp only [Act.put, List.setIfInBounds_toArray, List.set_cons_zero, List.set_cons_succ]
     refine AnyE.take (i := 10) (.bool true) rfl (by kernel_rfl) (by kernel_rfl) (by kernel_rfl) (by kernel_rfl) (fun _ _ _ h => h) (.inl ⟨by kernel_rfl, fun wy hy => by (go_simp; done)⟩) hHeld ?_
     try simp only [Act.put, List.setIfInBounds_toArray, List.set_cons_zero, List.set_cons_succ]
     refine AnyE.take (i := 11) (.bool true) rfl (by kernel_rfl) (by kernel_rfl) (by kernel_rfl) (by kernel_rfl) (fun _ _ _ h => h) (.inl ⟨by kernel_rfl, fun wy hy => by (go_simp; done)⟩) hHeld ?_
     try simp only [Act.put, List.setIfInBounds_toArray, List.set_cons_zero, List.set_cons_succ]
     refine AnyE.take (i := 12) undef rfl (by kernel_rfl) (by kernel_rfl) (by kernel_rfl) (by kernel_rfl) (fun _ _ _ h => h) (.inr ⟨by kernel_rfl, rfl⟩) hHeld ?_
     try simp only [Act.put, List.setIfInBounds_toArray, List.set_cons_zero, List.set_cons_succ]
     refine AnyE.take (i := 13) undef rfl (by kernel_rfl) (by kernel_rfl) (by kernel_rfl) (by kernel_rfl) (fun _ _ _ h => h) (.inr ⟨by kernel_rfl, rfl⟩) hHeld ?_
     try simp only [Act.put, List.setIfInBounds_toArray, List.set_cons_zero, List.set_cons_succ]
     refine AnyE.take (i := 14) undef rfl (by kernel_rfl) (by kernel_rfl) (by kernel_rfl) (by kernel_rfl) (fun _ _ _ h => h) (.inr ⟨by kernel_rfl, rfl⟩) hHeld ?_
     try simp only [Act.put, List.setIfInBounds_toArray, List.set_cons_zero, List.set_cons_succ]
     refine AnyE.take (i := 15) undef rfl (by kernel_rfl) (by kernel_rfl) (by kernel_rfl) (by kernel_rfl) (fun _ _ _ h => h) (.inr ⟨by kernel_rfl, rfl⟩) hHeld ?_
     try simp only [Act.put, List.setIfInBounds_toArray, List.set_cons_zero, List.set_cons_succ]
     refine AnyE.take (i := 16) undef rfl (by kernel_rfl) (by kernel_rfl) (by kernel_rfl) (by kernel_rfl) (fun _ _ _ h => h) (.inr ⟨by kernel_rfl, rfl⟩) hHeld ?_
     try simp only [Act.put, List.setIfInBounds_toArray, List.set_cons_zero, List.set_cons_succ]
     refine AnyE.take (i := 17) undef rfl (by kernel_rfl) (by kernel_rfl) (by kernel_rfl) (by kernel_rfl) (fun _ _ _ h => h) (.inr ⟨by kernel_rfl, rfl⟩) hHeld ?_
     try simp only [Act.put, List.setIfInBounds_toArray, List.set_cons_zero, List.set_cons_succ]
     refine AnyE.take (i := 18) undef rfl (by kernel_rfl) (by kernel_rfl) (by kernel_rfl) (by kernel_rfl) (fun _ _ _ h => h) (.inr ⟨by kernel_rfl, rfl⟩) hHeld ?_
     try simp only [Act.put, List.setIfInBounds_toArray, List.set_cons_zero, List.set_cons_succ]
     refine AnyE.take (i := 19) undef rfl (by kernel_rfl) (by kernel_rfl) (by kernel_rfl) (by kernel_rfl) (fun _ _ _ h => h) (.inr ⟨by kernel_rfl, rfl⟩) hHeld ?_
     try simp only [Act.put, List.setIfInBounds_toArray, List.set_cons_zero, List.set_cons_succ]
     refine AnyE.take (i := 20) undef rfl (by kernel_rfl) (by kernel_rfl) (by kernel_rfl) (by kernel_rfl) (fun _ _ _ h => h) (.inr ⟨by kernel_rfl, rfl⟩) hHeld ?_
     try simp only [Act.put, List.setIfInBounds_toArray, List.set_cons_zero, List.set_cons_succ]
     refine AnyE.take (i := 21) undef rfl (by kernel_rfl) (by kernel_rfl) (by kernel_rfl) (by kernel_rfl) (fun _ _ _ h => h) (.inr ⟨by kernel_rfl, rfl⟩) hHeld ?_
     try simp only [Act.put, List.setIfInBounds_toArray, List.set_cons_zero, List.set_cons_succ]
     refine AnyE.take (i := 22) undef rfl (by kernel_rfl) (by kernel_rfl) (by kernel_rfl) (by kernel_rfl) (fun _ _ _ h => h) (.inr ⟨by kernel_rfl, rfl⟩) hHeld ?_
     try simp only [Act.put, List.setIfInBounds_toArray, List.set_cons_zero, List.set_cons_succ]
     refine AnyE.take (i := 23) (.bool true) rfl (by kernel_rfl) (by kernel_rfl) (by kernel_rfl) (by kernel_rfl) (fun _ _ _ h => h) (.inl ⟨by kernel_rfl, fun wy hy => by (go_simp; done)⟩) hHeld ?_
     try simp only [Act.put, List.setIfInBounds_toArray, List.set_cons_zero, List.set_cons_succ]
     refine AnyE.take (i := 24) (.bool true) rfl (by kernel_rfl) (by kernel_rfl) (by kernel_rfl) (by kernel_rfl) (fun _ _ _ h => h) (.inl ⟨by kernel_rfl, fun wy hy => by (go_simp; done)⟩) hHeld ?_
     try simp only [Act.put, List.setIfInBounds_toArray, List.set_cons_zero, List.set_cons_succ]
     refine AnyE.take (i := 25) undef rfl (by kernel_rfl) (by kernel_rfl) (by kernel_rfl) (by kernel_rfl) (fun _ _ _ h => h) (.inr ⟨by kernel_rfl, rfl⟩) hHeld ?_
     try simp only [Act.put, List.setIfInBounds_toArray, List.set_cons_zero, List.set_cons_succ]
     refine AnyE.take (i := 26) undef rfl (by kernel_rfl) (by kernel_rfl) (by kernel_rfl) (by kernel_rfl) (fun _ _ _ h => h) (.inr ⟨by kernel_rfl, rfl⟩) hHeld ?_
     try simp only [Act.put, List.setIfInBounds_toArray, List.set_cons_zero, List.set_cons_succ]
     refine AnyE.take (i := 27) undef rfl (by kernel_rfl) (by kernel_rfl) (by kernel_rfl) (by kernel_rfl) (fun _ _ _ h => h) (.inr ⟨by kernel_rfl, rfl⟩) hHeld ?_
     try simp only [Act.put, List.setIfInBounds_toArray, List.set_cons_zero, List.set_cons_succ]
     refine AnyE.take (i := 28) undef rfl (by kernel_rfl) (by kernel_rfl) (by kernel_rfl) (by kernel_rfl) (fun _ _ _ h => h) (.inr ⟨by kernel_rfl, rfl⟩) hHeld ?_
     try simp only [Act.put, List.setIfInBounds_toArray, List.set_cons_zero, List.set_cons_succ]
     refine AnyE.take (i := 29) undef rfl (by kernel_rfl) (by kernel_rfl) (by kernel_rfl) (by kernel_rfl) (fun _ _ _ h => h) (.inr ⟨by kernel_rfl, rfl⟩) hHeld ?_
     try simp only [Act.put, List.setIfInBounds_toArray, List.set_cons_zero, List.set_cons_succ]
     refine AnyE.take (i := 30) undef rfl (by kernel_rfl) (by kernel_rfl) (by kernel_rfl) (by kernel_rfl) (fun _ _ _ h => h) (.inr ⟨by kernel_rfl, rfl⟩) hHeld ?_
     try simp only [Act.put, List.setIfInBounds_toArray, List.set_cons_zero, List.set_cons_succ]
     refine AnyE.take (i := 31) undef rfl (by kernel_rfl) (by kernel_rfl) (by kernel_rfl) (by kernel_rfl) (fun _ _ _ h => h) (.inr ⟨by kernel_rfl, rfl⟩) hHeld ?_
     try simp only [Act.put, List.setIfInBounds_toArray, List.set_cons_zero, List.set_cons_succ]
     refine AnyE.take (i := 32) undef rfl (by kernel_rfl) (by kernel_rfl) (by kernel_rfl) (by kernel_rfl) (fun _ _ _ h => h) (.inr ⟨by kernel_rfl, rfl⟩) hHeld ?_
     try simp only [Act.put, List.setIfInBounds_toArray, List.set_cons_zero, List.set_cons_succ]
     refine AnyE.take (i := 33) undef rfl (by kernel_rfl) (by kernel_rfl) (by kernel_rfl) (by kernel_rfl) (fun _ _ _ h => h) (.inr ⟨by kernel_rfl, rfl⟩) hHeld ?_
     try simp only [Act.put, List.setIfInBounds_toArray, List.set_cons_zero, List.set_cons_succ]
     refine AnyE.take (i := 34) undef rfl (by kernel_rfl) (by kernel_rfl) (by kernel_rfl) (by kernel_rfl) (fun _ _ _ h => h) (.inr ⟨by kernel_rfl, rfl⟩) hHeld ?_
     try simp only [Act.put, List.setIfInBounds_toArray, List.set_cons_zero, List.set_cons_succ]
     refine AnyE.take (i := 35) undef rfl (by kernel_rfl) (by kernel_rfl) (by kernel_rfl) (by kernel_rfl) (fun _ _ _ h => h) (.inr ⟨by kernel_rfl, rfl⟩) hHeld ?_
     try simp only [Act.put, List.setIfInBounds_toArray, List.set_cons_zero, List.set_cons_succ]
     refine AnyE.take (i := 36) undef rfl (by kernel_rfl) (by kernel_rfl) (by kernel_rfl) (by kernel_rfl) (fun _ _ _ h => h) (.inr ⟨by kernel_rfl, rfl⟩) hHeld ?_
     try simp only [Act.put, List.setIfInBounds_toArray, List.set_cons_zero, List.set_cons_succ]
     refine AnyE.take (i := 37) (.bool true) rfl (by kernel_rfl) (by kernel_rfl) (by kernel_rfl) (by kernel_rfl) (fun _ _ _ h => h) (.inl ⟨by kernel_rfl, fun wy hy => by (go_simp; done)⟩) hHeld ?_
     try simp only [Act.put, List.setIfInBounds_toArray, List.set_cons_zero, List.set_cons_succ]
     refine AnyE.done (by kernel_rfl) (NoPanic.normal ?_) _
     have hZ9 : ∃ z, z = Z0 := ⟨_, rfl⟩
     obtain ⟨YY, hZ9⟩ := hZ9
     rw [← hZ9] at HB ⊢
     clear hHeld hZ9
     go_simp
     go_step
     go_wp2
     go_ret
     exact ⟨by first | rfl | (rw [hrf]; rfl) | (simp [hrf]; done), HBW.out.trans (HB.out.mono HBW.out.size)⟩
   ·have j1 : (n : Int) ≤ (t : Int) := by omega
    have hrt : r = true := by
     rw [HR.out]
     simp only [decide_eq_true_eq]
     have h := HTK.out
     rw [List.take_of_length_le (by rw [List.length_map, ← HN.out.1]; omega), List.take_of_length_le (by rw [List.length_map, ← HN.out.2]; omega)] at h
     exact h
    go_wp2
    go_ret
    exact ⟨by first | rfl | (rw [hrt]; rfl) | (simp [hrt]; done), HBW.out⟩
 ·have j0 : ¬ (n : Int) = (m : Int) := by omega
  have hrf : r = false := by
   rw [HR.out]
   simp only [decide_eq_false_iff_not]
   intro h
   have := congrArg List.length h
   rw [List.length_map, List.length_map, ← HN.out.1, ← HN.out.2] at this
   exact hnm this
  go_wp2
  go_ret
  exact ⟨by first | rfl | (rw [hrf]; rfl) | (simp [hrf]; done), Below.refl _ _⟩
end Go.Proofs.Ytlkhphhmhffdjaa

namespace Go.Proofs.Ytlkhphhmhffdjaa
open Go.RowKit Go.MapKept
variable {w w' W X : World} {O O' : Nat → Prop} {dB : Nat} {d : Dk4}
def nameK (k : Nat) : ByteArray := ⟨#[102, 47]⟩ ++ str [97 + k]
def nameN (n : Int) : ByteArray := nameK (n % 8).toNat
end Go.Proofs.Ytlkhphhmhffdjaa

namespace Go.Proofs.Ytlkhphhmhffdjaa
open Go.RowKit Go.MapKept
variable {w w' W X : World} {O O' : Nat → Prop} {dB : Nat} {d : Dk4}
def armD (d : Dk4) (n : Int) : Dk4 := if d.down = true then d else { d with arm := max n 0 }
set_option maxRecDepth 100000 in
theorem arm_any (hD : Dsk w O dB d) (n : Int) (hn : n ≤ 9223372036854775807) : Calls Try.prog 61 #[.pointer (some ⟨dB, 0, none⟩), .int .i64 n] w fun e w' => e = .returned (.tuple #[]) ∧ Dsk w' O dB (armD d n) ∧ Go4 w w' O O := by
 obtain ⟨ok, mb, fl, hM, hfl⟩ := hD
 have c3 := hM.box.cells.2.2.2.1
 have c2 := hM.box.cells.2.2.1
 have z2 := hM.box.fz 2
 have HM := Lib.hid (And.intro hM (And.intro hfl ok))
 clear hM hfl ok
 unfold armD
 cases hd : d.down with
 | true =>
  rw [hd] at c3
  rw [if_pos rfl]
  clear hd c2 z2
  go_enter Try.func61, Try.ntmps61
  go_wp2
  go_end0
  exact ⟨rfl, ⟨HM.out.2.2, mb, fl, HM.out.1, HM.out.2.1⟩, Go4.refl _ _⟩
 | false =>
  rw [hd] at c3
  rw [if_neg (by simp)]
  have HDD := Lib.hid hd
  clear hd
  have fin : ∀ x : Int, 0 ≤ x → x ≤ 9223372036854775807 → Dsk (w.setCell ⟨dB, 2, none⟩ (.int .i64 x)) O dB { d with arm := x } ∧ Go4 w (w.setCell ⟨dB, 2, none⟩ (.int .i64 x)) O O := fun x h0 h1 => ⟨⟨HM.out.2.2.mk2 HM.out.2.2.fs h0 h1 _ _, mb, fl, HM.out.1.setArm x, HM.out.2.1⟩, Go4.of_set (a := ⟨dB, 2, none⟩) HM.out.1.odb _⟩
  have HF := Lib.hid fin
  clear fin
  by_cases h0 : n < 0
  ·have hmx : max n 0 = 0 := by omega
   rw [hmx]
   go_enter Try.func61, Try.ntmps61
   go_wp2
   go_end0
   have := HF.out 0 (by omega) (by omega)
   rw [HDD.out] at this
   exact ⟨rfl, this⟩
  ·have hmx : max n 0 = n := by omega
   rw [hmx]
   go_enter Try.func61, Try.ntmps61
   go_wp2
   go_end0
   have := HF.out n (by omega) hn
   rw [HDD.out] at this
   exact ⟨rfl, this⟩
set_option maxRecDepth 100000 in
theorem down_any (hD : Dsk w O dB d) : Calls Try.prog 14 #[.pointer (some ⟨dB, 0, none⟩)] w fun e w' => e = .returned (.bool d.down) ∧ w' = w := by
 obtain ⟨ok, mb, fl, hM, hfl⟩ := hD
 have c3 := hM.box.cells.2.2.2.1
 clear hM hfl ok
 go_enter Try.func14, Try.ntmps14
 go_wp2
 go_ret
 exact ⟨rfl, rfl⟩
set_option maxRecDepth 100000 in
theorem cap_any (hD : Dsk w O dB d) : Calls Try.prog 28 #[.pointer (some ⟨dB, 0, none⟩)] w fun e w' => e = .returned (.int .i64 d.cap) ∧ w' = w := by
 obtain ⟨ok, mb, fl, hM, hfl⟩ := hD
 have c3 := hM.box.cells.2.1
 clear hM hfl ok
 go_enter Try.func28, Try.ntmps28
 go_wp2
 go_ret
 exact ⟨rfl, rfl⟩
def actD (d : Dk4) (kind file too : Int) (bs : List Nat) : Int × Dk4 :=
 if kind = 1 then createD d (nameN file) else if kind = 2 then appendD d (nameN file) bs else if kind = 3 then syncD d (nameN file) else if kind = 4 then renameD d (nameN file) (nameN too) else if kind = 5 then deleteD d (nameN file) else (0, d)
end Go.Proofs.Ytlkhphhmhffdjaa

namespace Go.Proofs.Ytlkhphhmhffdjaa
open Go.RowKit Go.MapKept Go.Sort
variable {w w' W X : World} {O O' : Nat → Prop} {dB : Nat} {d : Dk4}
def crash1 (cuts : List Int) (t : Nat) (v : List Nat × Nat) : List Nat × Nat := if v.2 = v.1.length then v else (v.1.take (keepN v.2 v.1.length (cuts.getD t 0)), keepN v.2 v.1.length (cuts.getD t 0))
def tailsF (fs : List PF) (xs : List (List UInt8)) : Nat := (xs.filter (fun x => decide (((atP fs (ofL x)).getD ([], 0)).2 ≠ ((atP fs (ofL x)).getD ([], 0)).1.length))).length
theorem atP_set_eq {f : PF} : ∀ l : List PF, (∃ v, atP l f.1 = some v) → atP (setP l f) f.1 = some f.2
 | [], h => by obtain ⟨v, hv⟩ := h; cases hv
 | x :: xs, h => by
  by_cases e : x.1 = f.1
  ·rw [setP, if_pos e, atP, if_pos rfl]
  ·rw [atP, if_neg e] at h
   rw [setP, if_neg e, atP, if_neg e, atP_set_eq xs h]
theorem crashF_names (cuts : List Int) : ∀ (xs : List (List UInt8)) (t : Nat) (fs : List PF), (∀ x ∈ xs, ∃ v, atP fs (ofL x) = some v) → (crashF cuts xs t fs).2.map (·.1) = fs.map (·.1)
 | [], _, _, _ => rfl
 | x :: xs, t, fs, h => by
  obtain ⟨v, hv⟩ := h x (by simp)
  rw [crashF]
  split
  ·exact crashF_names cuts xs t fs (fun y hy => h y (by simp [hy]))
  ·rw [crashF_names cuts xs (t + 1) _ (fun y hy => atP_set_some _ ⟨_, hv⟩ (h y (by simp [hy])))]
   exact setP_names hv
theorem crashF_other (cuts : List Int) {s : ByteArray} : ∀ (xs : List (List UInt8)) (t : Nat) (fs : List PF), (∀ x ∈ xs, ∃ v, atP fs (ofL x) = some v) → (∀ x ∈ xs, ofL x ≠ s) → atP (crashF cuts xs t fs).2 s = atP fs s
 | [], _, _, _, _ => rfl
 | x :: xs, t, fs, h, hne => by
  obtain ⟨v, hv⟩ := h x (by simp)
  rw [crashF]
  split
  ·exact crashF_other cuts xs t fs (fun y hy => h y (by simp [hy])) (fun y hy => hne y (by simp [hy]))
  ·rw [crashF_other cuts xs (t + 1) _ (fun y hy => atP_set_some _ ⟨_, hv⟩ (h y (by simp [hy]))) (fun y hy => hne y (by simp [hy]))]
   exact atP_set_ne (hne x (by simp)) fs ⟨_, hv⟩
end Go.Proofs.Ytlkhphhmhffdjaa

namespace Go.Proofs.Ytlkhphhmhffdjaa
open Go.RowKit Go.MapKept Go.Sort
variable {w w' W X : World} {O O' : Nat → Prop} {dB : Nat} {d c : Dk4}
def Like (d c : Dk4) : Prop := d.fs = c.fs ∧ d.cap = c.cap ∧ d.down = false ∧ c.down = false ∧ c.arm = 0
def Out (torn : Bool) (d c : Dk4) (rd rc : Int × Dk4) : Prop :=
 (rc.1 ≠ 0 ∧ rd = (rc.1, d) ∧ rc = (rc.1, c)) ∨
 (rc.1 = 0 ∧ rc.2.arm = 0 ∧ rc.2.down = false ∧ rc.2.cap = c.cap ∧
  ((d.arm = 1 ∧ rd.1 = 3 ∧ rd.2.down = true ∧ rd.2.fs = (if torn = true then rc.2.fs else c.fs)) ∨
   (d.arm ≠ 1 ∧ rd.1 = 0 ∧ rd.2.down = false ∧ rd.2.fs = rc.2.fs ∧ rd.2.cap = c.cap ∧ rd.2.arm = if 0 < d.arm then d.arm - 1 else 0)))
theorem filesP_small (ok : d.Ok) : (∀ p ∈ filesP d, p.2.1.length ≤ 67108864) ∧ (filesP d).length ≤ 256 := by
 refine ⟨fun p hp => ?_, ?_⟩
 ·unfold filesP at hp
  obtain ⟨x, hx, rfl⟩ := List.mem_map.1 hp
  obtain ⟨v, hv⟩ := lsP_at hx
  have h1 := totP_mem hv
  have h2 := ok.tot
  have h3 := ok.cap1
  unfold fileP
  rw [hv]
  simp only [Option.getD_some]
  omega
 ·unfold filesP lsP
  rw [List.length_map, List.length_mergeSort, List.length_map]
  refine Nat.le_trans (List.length_filter_le _ _) ?_
  rw [List.length_map]
  exact ok.cnt
end Go.Proofs.Ytlkhphhmhffdjaa

namespace Go.Proofs.Ytlkhphhmhffdjaa
open Go.RowKit Go.MapKept Go.Sort
variable {w w' W X : World} {O O' : Nat → Prop} {dB : Nat} {d t : Dk4}
theorem atP_mem4 {s : ByteArray} {v : List Nat × Nat} : ∀ {l : List PF}, atP l s = some v → (s, v) ∈ l
 | x :: xs, h => by
  by_cases e : x.1 = s
  ·rw [atP, if_pos e] at h
   cases h
   rw [← e]
   exact List.mem_cons_self
  ·rw [atP, if_neg e] at h
   exact List.mem_cons_of_mem _ (atP_mem4 h)
theorem atP_of_mem {s : ByteArray} {v : List Nat × Nat} : ∀ {l : List PF}, (l.map (·.1)).Nodup → (s, v) ∈ l → atP l s = some v
 | x :: xs, hn, h => by
  rw [List.map_cons, List.nodup_cons] at hn
  rcases List.mem_cons.1 h with e | h
  ·subst e; rw [atP, if_pos rfl]
  ·rw [atP, if_neg (fun e => hn.1 (by rw [e]; exact List.mem_map.2 ⟨_, h, rfl⟩))]
   exact atP_of_mem hn.2 h
theorem nod_perm {l1 l2 : List PF} (p : l1.Perm l2) (hn : (l1.map (·.1)).Nodup) : (l2.map (·.1)).Nodup := (p.map _).nodup_iff.1 hn
theorem atP_perm {l1 l2 : List PF} (p : l1.Perm l2) (hn : (l1.map (·.1)).Nodup) (s : ByteArray) : atP l1 s = atP l2 s := by
 have h2 := nod_perm p hn
 cases h : atP l1 s with
 | some v => exact (atP_of_mem h2 (p.mem_iff.1 (atP_mem4 h))).symm
 | none =>
  cases k : atP l2 s with
  | none => rfl
  | some v => rw [atP_of_mem hn (p.mem_iff.2 (atP_mem4 k))] at h; cases h
theorem totP_perm {l1 l2 : List PF} (p : l1.Perm l2) : totP l1 = totP l2 := (p.map _).sum_nat
theorem setP_perm {f : PF} : ∀ {l : List PF}, (l.map (·.1)).Nodup → (setP l f).Perm (f :: l.filter (fun p => decide (p.1 ≠ f.1)))
 | [], _ => List.Perm.refl _
 | x :: xs, hn => by
  rw [List.map_cons, List.nodup_cons] at hn
  by_cases e : x.1 = f.1
  ·rw [setP, if_pos e, List.filter_cons, if_neg (by simp [e])]
   refine List.Perm.cons _ (List.Perm.of_eq (List.filter_eq_self.2 (fun p hp => ?_)).symm)
   simp only [decide_eq_true_eq]
   exact fun e2 => hn.1 (by rw [e, ← e2]; exact List.mem_map.2 ⟨_, hp, rfl⟩)
  ·rw [setP, if_neg e, List.filter_cons, if_pos (by simp [e])]
   exact ((setP_perm hn.2).cons x).trans (List.Perm.swap f x _)
theorem delP_filter {s : ByteArray} : ∀ {l : List PF}, (l.map (·.1)).Nodup → delP l s = l.filter (fun p => decide (p.1 ≠ s))
 | [], _ => rfl
 | x :: xs, hn => by
  rw [List.map_cons, List.nodup_cons] at hn
  by_cases e : x.1 = s
  ·rw [delP, if_pos e, List.filter_cons, if_neg (by simp [e])]
   refine (List.filter_eq_self.2 (fun p hp => ?_)).symm
   simp only [decide_eq_true_eq]
   exact fun e2 => hn.1 (by rw [e, ← e2]; exact List.mem_map.2 ⟨_, hp, rfl⟩)
  ·rw [delP, if_neg e, List.filter_cons, if_pos (by simp [e]), delP_filter hn.2]
theorem setP_perm2 {f : PF} {l1 l2 : List PF} (p : l1.Perm l2) (hn : (l1.map (·.1)).Nodup) : (setP l1 f).Perm (setP l2 f) :=
 (setP_perm hn).trans (((p.filter _).cons f).trans (setP_perm (nod_perm p hn)).symm)
theorem delP_perm2 {s : ByteArray} {l1 l2 : List PF} (p : l1.Perm l2) (hn : (l1.map (·.1)).Nodup) : (delP l1 s).Perm (delP l2 s) := by
 rw [delP_filter hn, delP_filter (nod_perm p hn)]
 exact p.filter _
theorem delP_nod {s : ByteArray} {l : List PF} (hn : (l.map (·.1)).Nodup) : ((delP l s).map (·.1)).Nodup := by
 rw [delP_filter hn]
 exact hn.sublist (List.filter_sublist.map _)
theorem filesP_perm (hn : (d.fs.map (·.1)).Nodup) : (filesP d).Perm d.fs := by
 have p : (lsP d.fs ⟨#[]⟩).Perm ((d.fs.map (·.1)).map nmL) := by
  have e : (d.fs.map (·.1)).filter (preB ⟨#[]⟩) = d.fs.map (·.1) := List.filter_eq_self.2 (fun a _ => preB_nil a)
  have := List.mergeSort_perm (((d.fs.map (·.1)).filter (preB ⟨#[]⟩)).map nmL) leB
  rw [e] at this
  unfold lsP
  rw [e]
  exact this
 refine (p.map (fileP d)).trans (List.Perm.of_eq ?_)
 rw [List.map_map, List.map_map]
 conv => rhs; rw [← List.map_id d.fs]
 refine List.map_congr_left (fun x hx => ?_)
 simp only [Function.comp, fileP, ofL_nmL, id]
 rw [atP_of_mem hn (show (x.1, x.2) ∈ d.fs from hx)]
 rfl
structure Twin (d t : Dk4) : Prop where
 fs : d.fs.Perm t.fs
 nod : (d.fs.map (·.1)).Nodup
 cap : d.cap = t.cap
 dn : d.down = false
 tn : t.down = false
 da : d.arm = 0
 ta : t.arm = 0
theorem setP_nod {f : PF} {l : List PF} (hn : (l.map (·.1)).Nodup) : ((setP l f).map (·.1)).Nodup := by
 refine nod_perm (setP_perm hn).symm ?_
 rw [List.map_cons, List.nodup_cons]
 refine ⟨fun h => ?_, hn.sublist (List.filter_sublist.map _)⟩
 obtain ⟨p, hp, e⟩ := List.mem_map.1 h
 have := (List.mem_filter.1 hp).2
 simp only [decide_eq_true_eq] at this
 exact this e
def PF.g (p : PF) : GF := (p.1, p.2.1, (p.2.2 : Int))
theorem loadL_all : ∀ (l : List PF) (d : Dk4), (∀ p ∈ l, DkName p.1) → ((d.fs ++ l).map (·.1)).Nodup → (∀ p ∈ l, p.2.2 ≤ p.2.1.length) → ((totP d.fs + totP l : Nat) : Int) ≤ d.cap → loadL d (l.map PF.g) = (0, ⟨d.fs ++ l, d.cap, d.arm, d.down, d.c⟩)
 | [], d, _, _, _, _ => by simp [loadL]
 | x :: xs, d, hn, hd, hs, ht => by
  have htx : totP (x :: xs) = x.2.1.length + totP xs := by simp [totP]
  have hnone : atP d.fs x.1 = none := by
   cases h : atP d.fs x.1 with
   | none => rfl
   | some v =>
    rw [List.map_append, List.nodup_append] at hd
    exact absurd rfl (hd.2.2 x.1 (List.mem_map.2 ⟨_, atP_mem4 h, rfl⟩) x.1 (by simp))
  have hx := hs x (by simp)
  have htk : takeD d x.1 x.2.1 (x.2.2 : Int) = (0, ⟨d.fs ++ [x], d.cap, d.arm, d.down, d.c⟩) := by
   unfold takeD
   rw [if_neg (fun h => h (hn x (by simp))), if_neg (by rw [hnone]; simp), if_neg (by omega), if_neg (by rw [htx] at ht; omega)]
   have e := setP_new (f := (x.1, x.2.1, x.2.2)) (atP_none hnone)
   simp only [Int.toNat_natCast]
   rw [e]
  have hst : loadL d ((x :: xs).map PF.g) = loadL ⟨d.fs ++ [x], d.cap, d.arm, d.down, d.c⟩ (xs.map PF.g) := by
   rw [List.map_cons, loadL]
   have e0 : takeD d x.g.1 x.g.2.1 x.g.2.2 = (0, ⟨d.fs ++ [x], d.cap, d.arm, d.down, d.c⟩) := htk
   simp only [e0, ne_eq, not_true_eq_false, if_false]
  rw [hst]
  have ih := loadL_all xs ⟨d.fs ++ [x], d.cap, d.arm, d.down, d.c⟩ (fun p hp => hn p (by simp [hp])) (by simpa using hd) (fun p hp => hs p (by simp [hp])) (by
   simp only
   rw [totP_append]
   have : totP [x] = x.2.1.length := by simp [totP]
   rw [this]
   rw [htx] at ht
   omega)
  simp only [List.append_assoc, List.singleton_append] at ih
  exact ih
theorem RdF4.g {a : Option Addr} {k : Nat} {l : List (PF × Value)} (h : RdF4 w a k l) : RdG4 w a k (l.map fun x => (x.1.g, x.2)) := by
 refine ⟨by rw [List.length_map]; exact h.cap, fun i x hx => ?_, fun x hx => ?_⟩
 ·rw [List.getElem?_map] at hx
  obtain ⟨y, hy, rfl⟩ := Option.map_eq_some_iff.1 hx
  exact h.cel i y hy
 ·obtain ⟨y, hy, rfl⟩ := List.mem_map.1 hx
  exact h.dat y hy
end Go.Proofs.Ytlkhphhmhffdjaa
