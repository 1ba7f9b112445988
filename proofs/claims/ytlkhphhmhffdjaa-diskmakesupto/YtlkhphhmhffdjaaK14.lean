import Derived.Test.YtlkhphhmhffdjaaK13
set_option linter.unusedSimpArgs false
set_option linter.unusedVariables false
namespace Go.Proofs.Ytlkhphhmhffdjaa
open Go.RowKit Go.MapKept Go.Sort
variable {w w' W X : World} {O O' : Nat → Prop} {dB rB : Nat} {d r : Dk4}
def crashL (cuts : List Int) : List PF → Nat → Nat × List PF
 | [], t => (t, [])
 | p :: ps, t => if p.2.2 = p.2.1.length then ((crashL cuts ps t).1, p :: (crashL cuts ps t).2) else ((crashL cuts ps (t + 1)).1, (p.1, crash1 cuts t p.2) :: (crashL cuts ps (t + 1)).2)
theorem crashL_snoc (cuts : List Int) (p : PF) : ∀ (ps : List PF) (t : Nat), crashL cuts (ps ++ [p]) t = if p.2.2 = p.2.1.length then ((crashL cuts ps t).1, (crashL cuts ps t).2 ++ [p]) else ((crashL cuts ps t).1 + 1, (crashL cuts ps t).2 ++ [(p.1, crash1 cuts (crashL cuts ps t).1 p.2)])
 | [], t => by simp only [List.nil_append, crashL]
 | x :: xs, t => by
  simp only [List.cons_append, crashL]
  by_cases h : x.2.2 = x.2.1.length
  ·rw [if_pos h, if_pos h, crashL_snoc cuts p xs t]
   by_cases h2 : p.2.2 = p.2.1.length
   ·rw [if_pos h2, if_pos h2]; rfl
   ·rw [if_neg h2, if_neg h2]; rfl
  ·rw [if_neg h, if_neg h, crashL_snoc cuts p xs (t + 1)]
   by_cases h2 : p.2.2 = p.2.1.length
   ·rw [if_pos h2, if_pos h2]; rfl
   ·rw [if_neg h2, if_neg h2]; rfl
theorem crashL_len (cuts : List Int) : ∀ (ps : List PF) (t : Nat), (crashL cuts ps t).2.length = ps.length
 | [], t => rfl
 | x :: xs, t => by
  rw [crashL]
  split
  ·simp [crashL_len cuts xs t]
  ·simp [crashL_len cuts xs (t + 1)]
theorem crashL_names (cuts : List Int) : ∀ (ps : List PF) (t : Nat), (crashL cuts ps t).2.map (·.1) = ps.map (·.1)
 | [], t => rfl
 | x :: xs, t => by
  rw [crashL]
  split
  ·simp [crashL_names cuts xs t]
  ·simp [crashL_names cuts xs (t + 1)]
def crashR (r : Dk4) (cuts : List Int) : Nat × Dk4 := ((crashL cuts r.fs 0).1, ⟨(crashL cuts r.fs 0).2, r.cap, 0, false, r.c⟩)
theorem crash1_le {cuts : List Int} {t : Nat} {v : List Nat × Nat} (h : v.2 ≤ v.1.length) : (crash1 cuts t v).1.length ≤ v.1.length ∧ (crash1 cuts t v).2 ≤ (crash1 cuts t v).1.length := by
 unfold crash1
 split
 ·exact ⟨Nat.le_refl _, h⟩
 ·have := keepN_le h (cuts.getD t 0)
  simp only [List.length_take]
  omega
theorem crashL_ok (cuts : List Int) : ∀ (ps : List PF) (t : Nat), (∀ p ∈ ps, p.2.2 ≤ p.2.1.length) → totP (crashL cuts ps t).2 ≤ totP ps ∧ ∀ p ∈ (crashL cuts ps t).2, p.2.2 ≤ p.2.1.length
 | [], t, _ => ⟨Nat.le_refl _, fun p hp => by simp [crashL] at hp⟩
 | x :: xs, t, h => by
  have hx := h x (by simp)
  rw [crashL]
  split
  ·have ih := crashL_ok cuts xs t (fun p hp => h p (by simp [hp]))
   refine ⟨?_, fun p hp => ?_⟩
   ·simp [totP] at ih ⊢; omega
   ·rcases List.mem_cons.1 hp with rfl | hp
    ·exact hx
    ·exact ih.2 p hp
  ·have ih := crashL_ok cuts xs (t + 1) (fun p hp => h p (by simp [hp]))
   have c1 := crash1_le (cuts := cuts) (t := t) (v := x.2) hx
   refine ⟨?_, fun p hp => ?_⟩
   ·simp [totP] at ih ⊢; omega
   ·rcases List.mem_cons.1 hp with rfl | hp
    ·exact c1.2
    ·exact ih.2 p hp
theorem crashR_ok {cuts : List Int} (ok : r.Ok) (srt : Srt r.fs) : (crashR r cuts).2.Ok ∧ Srt (crashR r cuts).2.fs := by
 have hn := crashL_names cuts r.fs 0
 have hl := crashL_len cuts r.fs 0
 have ho := crashL_ok cuts r.fs 0 ok.syn
 refine ⟨ok.mk2 ⟨by have := ok.tot; omega, fun p hp => ?_, by rw [hl]; exact ok.cnt, ho.2, by rw [hn]; exact ok.nod⟩ (by decide) (by decide) false r.c, srt_names srt hn⟩
 have : p.1 ∈ (crashL cuts r.fs 0).2.map (·.1) := List.mem_map.2 ⟨p, hp, rfl⟩
 rw [hn] at this
 obtain ⟨q, hq, e⟩ := List.mem_map.1 this
 rw [← e]
 exact ok.nam q hq
theorem crash_step {cuts : List Int} {fs : List PF} {l2 : List (PF × Value)} {t kk : Nat} {x : PF × Value} {v : Value} {Y : Nat} (h : l2.map (·.1) = (crashL cuts (fs.take t) 0).2 ++ fs.drop t ∧ kk = (crashL cuts (fs.take t) 0).1) (hx : l2[t]? = some x) (hne : ¬ x.1.2.2 = x.1.2.1.length) (hy : crash1 cuts kk x.1.2 = (x.1.2.1.take Y, Y)) :
  ((l2.set t ((x.1.1, x.1.2.1, Y), x.2)).set t ((x.1.1, x.1.2.1.take Y, Y), v)).map (·.1) = (crashL cuts (fs.take (t + 1)) 0).2 ++ fs.drop (t + 1) ∧ kk + 1 = (crashL cuts (fs.take (t + 1)) 0).1 := by
 have hlen := crashL_len cuts (fs.take t) 0
 have e1 : (l2.map (·.1))[t]? = some x.1 := by rw [List.getElem?_map, hx]; rfl
 have ht : t < (l2.map (·.1)).length := (List.getElem?_eq_some_iff.1 e1).1
 have htf : t ≤ fs.length := by
  rw [h.1, List.length_append, hlen, List.length_take, List.length_drop] at ht
  omega
 have hl3 : (crashL cuts (fs.take t) 0).2.length = t := by rw [hlen, List.length_take]; omega
 rw [h.1, List.getElem?_append_right (by omega), hl3, Nat.sub_self, List.getElem?_drop, Nat.add_zero] at e1
 have hft : fs.take (t + 1) = fs.take t ++ [x.1] := by rw [List.take_add_one, e1]; rfl
 have hlt : t < fs.length := (List.getElem?_eq_some_iff.1 e1).1
 have hdr : fs.drop t = x.1 :: fs.drop (t + 1) := by
  obtain ⟨q1, q2⟩ := List.getElem?_eq_some_iff.1 e1
  rw [List.drop_eq_getElem_cons q1, q2]
 rw [hft, crashL_snoc, if_neg hne]
 refine ⟨?_, by rw [h.2]⟩
 rw [List.set_set, List.map_set, h.1, hdr, List.set_append_right _ _ (by omega), hl3, Nat.sub_self, List.set_cons_zero, ← h.2, hy, List.append_assoc]
 rfl
theorem crash_keep {cuts : List Int} {fs : List PF} {l2 : List (PF × Value)} {t kk : Nat} {x : PF × Value} (h : l2.map (·.1) = (crashL cuts (fs.take t) 0).2 ++ fs.drop t ∧ kk = (crashL cuts (fs.take t) 0).1) (hx : l2[t]? = some x) (he : x.1.2.2 = x.1.2.1.length) :
  l2.map (·.1) = (crashL cuts (fs.take (t + 1)) 0).2 ++ fs.drop (t + 1) ∧ kk = (crashL cuts (fs.take (t + 1)) 0).1 := by
 have hlen := crashL_len cuts (fs.take t) 0
 have e1 : (l2.map (·.1))[t]? = some x.1 := by rw [List.getElem?_map, hx]; rfl
 have ht : t < (l2.map (·.1)).length := (List.getElem?_eq_some_iff.1 e1).1
 have htf : t ≤ fs.length := by
  rw [h.1, List.length_append, hlen, List.length_take, List.length_drop] at ht
  omega
 have hl3 : (crashL cuts (fs.take t) 0).2.length = t := by rw [hlen, List.length_take]; omega
 rw [h.1, List.getElem?_append_right (by omega), hl3, Nat.sub_self, List.getElem?_drop, Nat.add_zero] at e1
 have hft : fs.take (t + 1) = fs.take t ++ [x.1] := by rw [List.take_add_one, e1]; rfl
 have hdr : fs.drop t = x.1 :: fs.drop (t + 1) := by
  obtain ⟨q1, q2⟩ := List.getElem?_eq_some_iff.1 e1
  rw [List.drop_eq_getElem_cons q1, q2]
 rw [hft, crashL_snoc, if_pos he]
 refine ⟨?_, h.2⟩
 rw [h.1, hdr, List.append_assoc]
 rfl
set_option maxRecDepth 100000 in
set_option maxHeartbeats 16000000 in
theorem rCrash_any {ac : Option Addr} {nc kc : Nat} {cuts : List Int} (h : RD w O rB r) (hr : RdI4 w O ac kc cuts) (hnc : nc = cuts.length) :
  Calls Try.prog 64 #[.pointer (some ⟨rB, 0, none⟩), .slice ac nc kc] w fun e w' => e = .returned (.int .i64 ((crashR r cuts).1 : Int)) ∧ ∃ O2, RD w' O2 rB (crashR r cuts).2 ∧ Go4 w w' O O2 := by
 obtain ⟨⟨ok, srt⟩, a, n, k, l, hm, hl⟩ := h
 have hn : n = r.fs.length := by rw [← hl, List.length_map]; exact hm.row.len
 have h256 : n ≤ 256 := by have := ok.cnt; omega
 have hcc := hr.cap
 have hkc : nc ≤ 9223372036854775807 := by unfold maxLen at hcc; omega
 have HM1 := Lib.hid (And.intro hm (And.intro hl hn))
 have HOK := Lib.hid (And.intro ok srt)
 have HC := Lib.hid (And.intro hr hnc)
 have c0 := hm.box.cells.2.1
 clear hm hl hn ok srt hr hnc hcc
 go_enter Try.func64, Try.ntmps64
 go_wp2_with fail
 clear c0
 go_loopw [5, 6] (fun kv i wr => ∃ (t kk : Nat) (O2 : Nat → Prop) (l2 : List (PF × Value)), t ≤ n ∧ kk ≤ t ∧ i = .int .i64 (t : Int) ∧ kv = .int .i64 (kk : Int) ∧ RDM wr O2 rB a n k l2 r.cap r.down r.arm r.c ∧ Go4 w wr O O2 ∧ l2.length = n ∧ (l2.map (·.1) = (crashL cuts (r.fs.take t) 0).2 ++ r.fs.drop t ∧ kk = (crashL cuts (r.fs.take t) 0).1)) (fun _ i _ => n - (intOf i).toNat)
 case atStart => exact ⟨0, 0, O, l, Nat.zero_le _, Nat.le_refl _, rfl, rfl, HM1.out.1, Go4.refl _ _, HM1.out.1.row.len.symm, by simp [crashL, HM1.out.2.1], by simp [crashL]⟩
 case round =>
  obtain ⟨t, kk, O2, l2, ht, hkt, rfl, rfl, hm, hgo, hln, hfs⟩ := hrel
  have HM := Lib.hid hm
  have HGO := Lib.hid hgo
  have HLN := Lib.hid hln
  have HFS := Lib.hid hfs
  have HKT := Lib.hid hkt
  have c0 := hm.box.cells.2.1
  clear hm hgo hfs
  by_cases hlt : t < n
  ·have j1 : (t : Int) < (n : Int) := by omega
   have j2 : (0 : Int) ≤ (t : Int) := by omega
   have hx : ∃ x, l2[t]? = some x := ⟨_, List.getElem?_eq_getElem (by rw [hln]; exact hlt)⟩
   obtain ⟨x, hx⟩ := hx
   have hpx : r.fs[t]? = some x.1 := by
    have e1 : (l2.map (·.1))[t]? = some x.1 := by rw [List.getElem?_map, hx]; rfl
    have hlen := crashL_len cuts (r.fs.take t) 0
    have hl3 : (crashL cuts (r.fs.take t) 0).2.length = t := by rw [hlen, List.length_take]; have := HM1.out.2.2; omega
    rw [HFS.out.1, List.getElem?_append_right (by omega), hl3, Nat.sub_self, List.getElem?_drop, Nat.add_zero] at e1
    exact e1
   have hsyn := HOK.out.1.syn x.1 (List.mem_of_getElem? hpx)
   have htx := totP_mem (atP_of_mem HOK.out.1.nod (show (x.1.1, x.1.2) ∈ r.fs from List.mem_of_getElem? hpx))
   have hcap1 := HOK.out.1.tot
   have hcap2 := HOK.out.1.cap1
   obtain ⟨g, hag, _, cx0, cx1, cx2⟩ := HM.out.row.at_ hx
   subst hag
   have lg := World.block_lt_of_cell? _ _ cx0
   simp only at lg
   have hdx := HM.out.dat x (List.mem_of_getElem? hx)
   obtain ⟨xa, xc, hxv⟩ := hdx.form
   have hnx : ∃ nx, nx = x.1.2.1.length := ⟨_, rfl⟩
   obtain ⟨nx, hnx⟩ := hnx
   have hxs : ∃ xs, xs = x.1.2.2 := ⟨_, rfl⟩
   obtain ⟨xs, hxs⟩ := hxs
   rw [hxv, ← hnx] at cx1
   rw [← hnx] at hxv
   rw [← hxs] at cx2
   have hxc : nx ≤ xc := by
    have h1 := (hdx.rd (by omega))
    rw [hxv] at h1
    obtain ⟨_, a1, c1, h2, h3, _⟩ := h1
    simp only [Value.slice.injEq] at h2
    obtain ⟨_, _, rfl⟩ := h2
    omega
   have hnx1 : nx ≤ 67108864 := by omega
   have hxn : xs ≤ nx := by omega
   have HX := Lib.hid hx
   have CX := Lib.hid cx1
   have CS := Lib.hid cx2
   have HXV := Lib.hid (And.intro hxv hnx)
   have HXS := Lib.hid hxs
   have HXC := Lib.hid hxc
   have HXL := Lib.hid hnx1
   clear cx0 cx1 cx2 hxv hnx hxs hx hpx hsyn htx hcap1 hcap2 hdx hln
   go_upto_region 5 with fail
   clear c0
   have BD : Below wr.heap.size wr wr.drew := (Below.refl _ _).drew
   refine wp_region_noPanic ?_
   refine wp_region_anyE (S := fun wx => Below wr.heap.size wr wx) (E := fun j => true) (by kernel_rfl) ?_
   have hHeld : Below wr.heap.size wr wr.drew := BD
   have HB := Lib.hid BD
   have hZ0 : ∃ z, z = wr.drew := ⟨_, rfl⟩
   obtain ⟨Z0, hZ0⟩ := hZ0
   rw [← hZ0] at HB hHeld ⊢
   clear hZ0 BD
   refine AnyE.take (i := 0) (.pointer (some ⟨rB, 0, none⟩)) rfl (by kernel_rfl) (by kernel_rfl) (by kernel_rfl) (by kernel_rfl) (fun _ _ _ h => h) (.inl ⟨by kernel_rfl, fun wy hy => by (go_simp; done)⟩) hHeld ?_
   try simp only [Act.put, List.setIfInBounds_toArray, List.set_cons_zero, List.set_cons_succ]
   refine AnyE.take (i := 1) (.pointer (some ⟨rB, 0, none⟩)) rfl (by kernel_rfl) (by kernel_rfl) (by kernel_rfl) (by kernel_rfl) (fun _ _ _ h => h) (.inl ⟨by kernel_rfl, fun wy hy => by (go_simp; done)⟩) hHeld ?_
   try simp only [Act.put, List.setIfInBounds_toArray, List.set_cons_zero, List.set_cons_succ]
   refine AnyE.take (i := 2) (.pointer (some ⟨rB, 1, none⟩)) rfl (by kernel_rfl) (by kernel_rfl) (by kernel_rfl) (by kernel_rfl) (fun _ _ _ h => h) (.inl ⟨by kernel_rfl, fun wy hy => by (go_simp; done)⟩) hHeld ?_
   try simp only [Act.put, List.setIfInBounds_toArray, List.set_cons_zero, List.set_cons_succ]
   refine AnyE.take (i := 3) (.slice (some ⟨g, 0, none⟩) n k) rfl (by kernel_rfl) (by kernel_rfl) (by kernel_rfl) (by kernel_rfl) (fun _ _ _ h => h) (.inl ⟨by kernel_rfl, fun wy hy => by (have q0 := (HM.out.below hy).box.cells.2.1; go_simp; done)⟩) hHeld ?_
   try simp only [Act.put, List.setIfInBounds_toArray, List.set_cons_zero, List.set_cons_succ]
   refine AnyE.take (i := 4) (.int .i64 (t : Int)) rfl (by kernel_rfl) (by kernel_rfl) (by kernel_rfl) (by kernel_rfl) (fun _ _ _ h => h) (.inl ⟨by kernel_rfl, fun wy hy => by (go_simp; done)⟩) hHeld ?_
   try simp only [Act.put, List.setIfInBounds_toArray, List.set_cons_zero, List.set_cons_succ]
   refine AnyE.take (i := 5) (.pointer (some ⟨g, t * 3, none⟩)) rfl (by kernel_rfl) (by kernel_rfl) (by kernel_rfl) (by kernel_rfl) (fun _ _ _ h => h) (.inl ⟨by kernel_rfl, fun wy hy => by (go_simp; done)⟩) hHeld ?_
   try simp only [Act.put, List.setIfInBounds_toArray, List.set_cons_zero, List.set_cons_succ]
   refine AnyE.take (i := 6) (.pointer (some ⟨g, t * 3 + 1, none⟩)) rfl (by kernel_rfl) (by kernel_rfl) (by kernel_rfl) (by kernel_rfl) (fun _ _ _ h => h) (.inl ⟨by kernel_rfl, fun wy hy => by (go_simp; done)⟩) hHeld ?_
   try simp only [Act.put, List.setIfInBounds_toArray, List.set_cons_zero, List.set_cons_succ]
   refine AnyE.take (i := 7) (.slice xa nx xc) rfl (by kernel_rfl) (by kernel_rfl) (by kernel_rfl) (by kernel_rfl) (fun _ _ _ h => h) (.inl ⟨by kernel_rfl, fun wy hy => by (have q0 := (hy.cell (p := ⟨g, t * 3 + 1, none⟩) lg).trans CX.out; go_simp; done)⟩) hHeld ?_
   try simp only [Act.put, List.setIfInBounds_toArray, List.set_cons_zero, List.set_cons_succ]
   refine AnyE.take (i := 8) (.int .i64 (nx : Int)) rfl (by kernel_rfl) (by kernel_rfl) (by kernel_rfl) (by kernel_rfl) (fun _ _ _ h => h) (.inl ⟨by kernel_rfl, fun wy hy => by (cases xa <;> go_simp; done)⟩) hHeld ?_
   try simp only [Act.put, List.setIfInBounds_toArray, List.set_cons_zero, List.set_cons_succ]
   refine AnyE.take (i := 9) (.pointer (some ⟨rB, 0, none⟩)) rfl (by kernel_rfl) (by kernel_rfl) (by kernel_rfl) (by kernel_rfl) (fun _ _ _ h => h) (.inl ⟨by kernel_rfl, fun wy hy => by (go_simp; done)⟩) hHeld ?_
   try simp only [Act.put, List.setIfInBounds_toArray, List.set_cons_zero, List.set_cons_succ]
   refine AnyE.take (i := 10) (.pointer (some ⟨rB, 0, none⟩)) rfl (by kernel_rfl) (by kernel_rfl) (by kernel_rfl) (by kernel_rfl) (fun _ _ _ h => h) (.inl ⟨by kernel_rfl, fun wy hy => by (go_simp; done)⟩) hHeld ?_
   try simp only [Act.put, List.setIfInBounds_toArray, List.set_cons_zero, List.set_cons_succ]
   refine AnyE.take (i := 11) (.pointer (some ⟨rB, 1, none⟩)) rfl (by kernel_rfl) (by kernel_rfl) (by kernel_rfl) (by kernel_rfl) (fun _ _ _ h => h) (.inl ⟨by kernel_rfl, fun wy hy => by (go_simp; done)⟩) hHeld ?_
   try simp only [Act.put, List.setIfInBounds_toArray, List.set_cons_zero, List.set_cons_succ]
   refine AnyE.take (i := 12) (.slice (some ⟨g, 0, none⟩) n k) rfl (by kernel_rfl) (by kernel_rfl) (by kernel_rfl) (by kernel_rfl) (fun _ _ _ h => h) (.inl ⟨by kernel_rfl, fun wy hy => by (have q0 := (HM.out.below hy).box.cells.2.1; go_simp; done)⟩) hHeld ?_
   try simp only [Act.put, List.setIfInBounds_toArray, List.set_cons_zero, List.set_cons_succ]
   refine AnyE.take (i := 13) (.int .i64 (t : Int)) rfl (by kernel_rfl) (by kernel_rfl) (by kernel_rfl) (by kernel_rfl) (fun _ _ _ h => h) (.inl ⟨by kernel_rfl, fun wy hy => by (go_simp; done)⟩) hHeld ?_
   try simp only [Act.put, List.setIfInBounds_toArray, List.set_cons_zero, List.set_cons_succ]
   refine AnyE.take (i := 14) (.pointer (some ⟨g, t * 3, none⟩)) rfl (by kernel_rfl) (by kernel_rfl) (by kernel_rfl) (by kernel_rfl) (fun _ _ _ h => h) (.inl ⟨by kernel_rfl, fun wy hy => by (go_simp; done)⟩) hHeld ?_
   try simp only [Act.put, List.setIfInBounds_toArray, List.set_cons_zero, List.set_cons_succ]
   refine AnyE.take (i := 15) (.pointer (some ⟨g, t * 3 + 2, none⟩)) rfl (by kernel_rfl) (by kernel_rfl) (by kernel_rfl) (by kernel_rfl) (fun _ _ _ h => h) (.inl ⟨by kernel_rfl, fun wy hy => by (go_simp; done)⟩) hHeld ?_
   try simp only [Act.put, List.setIfInBounds_toArray, List.set_cons_zero, List.set_cons_succ]
   refine AnyE.take (i := 16) (.int .i64 (xs : Int)) rfl (by kernel_rfl) (by kernel_rfl) (by kernel_rfl) (by kernel_rfl) (fun _ _ _ h => h) (.inl ⟨by kernel_rfl, fun wy hy => by (have q0 := (hy.cell (p := ⟨g, t * 3 + 2, none⟩) lg).trans CS.out; go_simp; done)⟩) hHeld ?_
   try simp only [Act.put, List.setIfInBounds_toArray, List.set_cons_zero, List.set_cons_succ]
   refine AnyE.take (i := 17) (.int .i64 ((nx : Int) - (xs : Int))) rfl (by kernel_rfl) (by kernel_rfl) (by kernel_rfl) (by kernel_rfl) (fun _ _ _ h => h) (.inl ⟨by kernel_rfl, fun wy hy => by (go_simp; exact IntWalk.i64_in _ ⟨by omega, by omega⟩)⟩) hHeld ?_
   try simp only [Act.put, List.setIfInBounds_toArray, List.set_cons_zero, List.set_cons_succ]
   refine AnyE.one (i := 18) rfl (by kernel_rfl) (by kernel_rfl) (fun KK hK => ?_)
   go_simp
   refine hK.out _ _ ⟨fun _ => hHeld, ?_⟩
   clear hK
   try simp only [Act.put, List.setIfInBounds_toArray, List.set_cons_zero, List.set_cons_succ]
   refine AnyE.done (by kernel_rfl) (NoPanic.normal ?_) _
   clear hHeld
   obtain ⟨Y0, hY0⟩ : ∃ z, z = Z0 := ⟨_, rfl⟩
   rw [← hY0] at HB ⊢
   clear hY0
   have HM0 := Lib.hid (HM.out.below HB.out)
   have HG0 := Lib.hid (HGO.out.trans (Go4.of_below HB.out))
   have CX0 := Lib.hid ((HB.out.cell (p := ⟨g, t * 3 + 1, none⟩) lg).trans CX.out)
   have CS0 := Lib.hid ((HB.out.cell (p := ⟨g, t * 3 + 2, none⟩) lg).trans CS.out)
   have lg0 := Nat.lt_of_lt_of_le lg HB.out.size
   clear HB
   go_simp
   go_step
   by_cases heq : nx = xs
   ·have hz : (nx : Int) - (xs : Int) = 0 := by omega
    have HE := Lib.hid heq
    clear heq
    go_wp2
    go_roundw
    case rel => exact ⟨t + 1, kk, O2, l2, by omega, by omega, by go_num, rfl, HM0.out, HG0.out, HLN.out, crash_keep HFS.out HX.out (by rw [← HXV.out.2, ← HXS.out]; exact HE.out.symm)⟩
    case measure => simp [intOf]; omega
   have hz : ¬ (nx : Int) - (xs : Int) = 0 := by omega
   have HNE : Hid (¬ x.1.2.2 = nx) := by rw [← HXS.out]; exact fun z => heq z.symm
   clear heq
   by_cases hkc2 : kk < nc
   ·have k1 : (kk : Int) < (nc : Int) := by omega
    have k2 : (0 : Int) ≤ (kk : Int) := by omega
    have hst : ∃ st, cuts[kk]? = some st := ⟨_, List.getElem?_eq_getElem (by rw [← HC.out.2]; exact hkc2)⟩
    obtain ⟨st, hst⟩ := hst
    have hgd : cuts.getD kk 0 = st := by rw [List.getD_eq_getElem?_getD, hst]; rfl
    obtain ⟨cb, co, hca, cn, ccel⟩ := (HC.out.1.go HG0.out).cel kk st hst
    subst hca
    have HGD := Lib.hid hgd
    clear hst hgd
    by_cases hst0 : 0 < st
    ·by_cases hbig : (nx : Int) - (xs : Int) < st
     ·have hY : ∃ Y : Nat, Y = nx := ⟨_, rfl⟩
      obtain ⟨Y, hY⟩ := hY
      have HYE : Hid (IntKind.i64.wrap ((xs : Int) + ((nx : Int) - (xs : Int))) = (Y : Int)) := by
       unfold Hid
       rw [IntWalk.i64_in _ ⟨by omega, by omega⟩]
       omega
      have HYE2 : Hid (IntKind.i64.wrap (xs : Int) = (xs : Int)) := IntWalk.i64_in _ ⟨by omega, by omega⟩
      have hYB : Y ≤ nx ∧ nx ≤ xc := ⟨by omega, HXC.out⟩
      have HYB := Lib.hid hYB
      have HYK : Hid (crash1 cuts kk x.1.2 = (x.1.2.1.take Y, Y)) := by
       unfold crash1 Hid
       rw [if_neg (by have := HNE.out; have := HXV.out.2; have := HXS.out; omega)]
       have : keepN x.1.2.2 x.1.2.1.length (cuts.getD kk 0) = Y := by
        unfold keepN
        rw [← HXV.out.2, ← HXS.out]
        rw [HGD.out]
        omega
       rw [this]
      clear hY hYB
      go_upto_region 13 with fail
      have BD : Below Y0.heap.size Y0 Y0.drew := (Below.refl _ _).drew
      refine wp_region_noPanic ?_
      refine wp_region_anyE (S := fun wx => Below Y0.heap.size Y0 wx) (E := fun j => !(decide (j = 17))) (by kernel_rfl) ?_
      have hHeld : Below Y0.heap.size Y0 Y0.drew := BD
      have HB := Lib.hid BD
      have hZ0 : ∃ z, z = Y0.drew := ⟨_, rfl⟩
      obtain ⟨Z0, hZ0⟩ := hZ0
      rw [← hZ0] at HB hHeld ⊢
      clear hZ0 BD
      refine AnyE.take (i := 0) (.pointer (some ⟨rB, 0, none⟩)) rfl (by kernel_rfl) (by kernel_rfl) (by kernel_rfl) (by kernel_rfl) (fun _ _ _ h => h) (.inl ⟨by kernel_rfl, fun wy hy => by (go_simp; done)⟩) hHeld ?_
      try simp only [Act.put, List.setIfInBounds_toArray, List.set_cons_zero, List.set_cons_succ]
      refine AnyE.take (i := 1) (.pointer (some ⟨rB, 0, none⟩)) rfl (by kernel_rfl) (by kernel_rfl) (by kernel_rfl) (by kernel_rfl) (fun _ _ _ h => h) (.inl ⟨by kernel_rfl, fun wy hy => by (go_simp; done)⟩) hHeld ?_
      try simp only [Act.put, List.setIfInBounds_toArray, List.set_cons_zero, List.set_cons_succ]
      refine AnyE.take (i := 2) (.pointer (some ⟨rB, 1, none⟩)) rfl (by kernel_rfl) (by kernel_rfl) (by kernel_rfl) (by kernel_rfl) (fun _ _ _ h => h) (.inl ⟨by kernel_rfl, fun wy hy => by (go_simp; done)⟩) hHeld ?_
      try simp only [Act.put, List.setIfInBounds_toArray, List.set_cons_zero, List.set_cons_succ]
      refine AnyE.take (i := 3) (.slice (some ⟨g, 0, none⟩) n k) rfl (by kernel_rfl) (by kernel_rfl) (by kernel_rfl) (by kernel_rfl) (fun _ _ _ h => h) (.inl ⟨by kernel_rfl, fun wy hy => by (have q0 := (HM0.out.below hy).box.cells.2.1; go_simp; done)⟩) hHeld ?_
      try simp only [Act.put, List.setIfInBounds_toArray, List.set_cons_zero, List.set_cons_succ]
      refine AnyE.take (i := 4) (.int .i64 (t : Int)) rfl (by kernel_rfl) (by kernel_rfl) (by kernel_rfl) (by kernel_rfl) (fun _ _ _ h => h) (.inl ⟨by kernel_rfl, fun wy hy => by (go_simp; done)⟩) hHeld ?_
      try simp only [Act.put, List.setIfInBounds_toArray, List.set_cons_zero, List.set_cons_succ]
      refine AnyE.take (i := 5) (.pointer (some ⟨rB, 0, none⟩)) rfl (by kernel_rfl) (by kernel_rfl) (by kernel_rfl) (by kernel_rfl) (fun _ _ _ h => h) (.inl ⟨by kernel_rfl, fun wy hy => by (go_simp; done)⟩) hHeld ?_
      try simp only [Act.put, List.setIfInBounds_toArray, List.set_cons_zero, List.set_cons_succ]
      refine AnyE.take (i := 6) (.pointer (some ⟨rB, 0, none⟩)) rfl (by kernel_rfl) (by kernel_rfl) (by kernel_rfl) (by kernel_rfl) (fun _ _ _ h => h) (.inl ⟨by kernel_rfl, fun wy hy => by (go_simp; done)⟩) hHeld ?_
      try simp only [Act.put, List.setIfInBounds_toArray, List.set_cons_zero, List.set_cons_succ]
      refine AnyE.take (i := 7) (.pointer (some ⟨rB, 1, none⟩)) rfl (by kernel_rfl) (by kernel_rfl) (by kernel_rfl) (by kernel_rfl) (fun _ _ _ h => h) (.inl ⟨by kernel_rfl, fun wy hy => by (go_simp; done)⟩) hHeld ?_
      try simp only [Act.put, List.setIfInBounds_toArray, List.set_cons_zero, List.set_cons_succ]
      refine AnyE.take (i := 8) (.slice (some ⟨g, 0, none⟩) n k) rfl (by kernel_rfl) (by kernel_rfl) (by kernel_rfl) (by kernel_rfl) (fun _ _ _ h => h) (.inl ⟨by kernel_rfl, fun wy hy => by (have q0 := (HM0.out.below hy).box.cells.2.1; go_simp; done)⟩) hHeld ?_
      try simp only [Act.put, List.setIfInBounds_toArray, List.set_cons_zero, List.set_cons_succ]
      refine AnyE.take (i := 9) (.int .i64 (t : Int)) rfl (by kernel_rfl) (by kernel_rfl) (by kernel_rfl) (by kernel_rfl) (fun _ _ _ h => h) (.inl ⟨by kernel_rfl, fun wy hy => by (go_simp; done)⟩) hHeld ?_
      try simp only [Act.put, List.setIfInBounds_toArray, List.set_cons_zero, List.set_cons_succ]
      refine AnyE.take (i := 10) (.pointer (some ⟨g, t * 3, none⟩)) rfl (by kernel_rfl) (by kernel_rfl) (by kernel_rfl) (by kernel_rfl) (fun _ _ _ h => h) (.inl ⟨by kernel_rfl, fun wy hy => by (go_simp; done)⟩) hHeld ?_
      try simp only [Act.put, List.setIfInBounds_toArray, List.set_cons_zero, List.set_cons_succ]
      refine AnyE.take (i := 11) (.pointer (some ⟨g, t * 3 + 2, none⟩)) rfl (by kernel_rfl) (by kernel_rfl) (by kernel_rfl) (by kernel_rfl) (fun _ _ _ h => h) (.inl ⟨by kernel_rfl, fun wy hy => by (go_simp; done)⟩) hHeld ?_
      try simp only [Act.put, List.setIfInBounds_toArray, List.set_cons_zero, List.set_cons_succ]
      refine AnyE.take (i := 12) (.int .i64 (xs : Int)) rfl (by kernel_rfl) (by kernel_rfl) (by kernel_rfl) (by kernel_rfl) (fun _ _ _ h => h) (.inl ⟨by kernel_rfl, fun wy hy => by (have q0 := (hy.cell (p := ⟨g, t * 3 + 2, none⟩) lg0).trans CS0.out; go_simp; done)⟩) hHeld ?_
      try simp only [Act.put, List.setIfInBounds_toArray, List.set_cons_zero, List.set_cons_succ]
      refine AnyE.take (i := 13) (.int .i64 ((nx : Int) - (xs : Int))) rfl (by kernel_rfl) (by kernel_rfl) (by kernel_rfl) (by kernel_rfl) (fun _ _ _ h => h) (.inl ⟨by kernel_rfl, fun wy hy => by (go_simp; done)⟩) hHeld ?_
      try simp only [Act.put, List.setIfInBounds_toArray, List.set_cons_zero, List.set_cons_succ]
      refine AnyE.take (i := 14) (.int .i64 (Y : Int)) rfl (by kernel_rfl) (by kernel_rfl) (by kernel_rfl) (by kernel_rfl) (fun _ _ _ h => h) (.inl ⟨by kernel_rfl, fun wy hy => by (have q0 := HYE.out; have q1 := HYE2.out; go_simp; done)⟩) hHeld ?_
      try simp only [Act.put, List.setIfInBounds_toArray, List.set_cons_zero, List.set_cons_succ]
      refine AnyE.one (i := 15) rfl (by kernel_rfl) (by kernel_rfl) (fun KK hK => ?_)
      go_simp
      refine hK.out _ _ ⟨fun _ => hHeld, ?_⟩
      clear hK
      try simp only [Act.put, List.setIfInBounds_toArray, List.set_cons_zero, List.set_cons_succ]
      refine AnyE.one (i := 16) rfl (by kernel_rfl) (by kernel_rfl) (fun KK hK => ?_)
      go_simp
      refine hK.out _ _ ⟨fun _ => hHeld, ?_⟩
      clear hK
      try simp only [Act.put, List.setIfInBounds_toArray, List.set_cons_zero, List.set_cons_succ]
      refine AnyE.one (i := 17) rfl (by kernel_rfl) (by kernel_rfl) (fun KK hK => ?_)
      have z2 : Z0.frozen? ⟨g, t * 3 + 2, none⟩ = false := (HB.out.frozen (p := ⟨g, t * 3 + 2, none⟩) lg0).trans (row_fz HM0.out.row rfl _)
      have q2 : Z0.cell? ⟨g, t * 3 + 2, none⟩ = some (.int .i64 (xs : Int)) := (HB.out.cell (p := ⟨g, t * 3 + 2, none⟩) lg0).trans CS0.out
      go_simp
      refine hK.out _ _ ⟨fun h => (by cases h), ?_⟩
      clear hK
      try simp only [Act.put, List.setIfInBounds_toArray, List.set_cons_zero, List.set_cons_succ]
      refine AnyE.done (by kernel_rfl) (NoPanic.normal ?_) _
      have h5 := (HM0.out.below HB.out).setSyn HX.out Y
      have g5 := HG0.out.trans ((Go4.of_below (O := O2) HB.out).trans (Go4.of_set (a := ⟨g, t * 3 + 2, none⟩) h5.2 (.int .i64 (Y : Int))))
      have q1 : (Z0.setCell ⟨g, t * 3 + 2, none⟩ (.int .i64 (Y : Int))).cell? ⟨g, t * 3 + 1, none⟩ = some (.slice xa nx xc) := by
       have q0 := (HB.out.cell (p := ⟨g, t * 3 + 1, none⟩) lg0).trans CX0.out
       simp [go_sem, q0]
      have q3 : (Z0.setCell ⟨g, t * 3 + 2, none⟩ (.int .i64 (Y : Int))).cell? ⟨g, t * 3 + 2, none⟩ = some (.int .i64 (Y : Int)) := by
       simp [go_sem, q2]
      have l5 : g < (Z0.setCell ⟨g, t * 3 + 2, none⟩ (.int .i64 (Y : Int))).heap.size := by simp [World.setCell]; exact Nat.lt_of_lt_of_le lg0 HB.out.size
      have hZ5 : ∃ z, z = Z0.setCell ⟨g, t * 3 + 2, none⟩ (.int .i64 (Y : Int)) := ⟨_, rfl⟩
      obtain ⟨Z5, hZ5⟩ := hZ5
      rw [← hZ5] at h5 g5 q1 q3 l5 ⊢
      have H5 := Lib.hid (And.intro h5.1 g5)
      have CX5 := Lib.hid q1
      have CS5 := Lib.hid q3
      clear h5 g5 hZ5 hHeld z2 q2 q1 q3 HB
      go_simp
      go_step
      go_upto_region 14 with fail
      have BD : Below Z5.heap.size Z5 Z5.drew := (Below.refl _ _).drew
      refine wp_region_noPanic ?_
      refine wp_region_anyE (S := fun wx => Below Z5.heap.size Z5 wx) (E := fun j => !(decide (j = 25))) (by kernel_rfl) ?_
      have hHeld : Below Z5.heap.size Z5 Z5.drew := BD
      have HB := Lib.hid BD
      have hZ0 : ∃ z, z = Z5.drew := ⟨_, rfl⟩
      obtain ⟨Z0, hZ0⟩ := hZ0
      rw [← hZ0] at HB hHeld ⊢
      clear hZ0 BD
      refine AnyE.take (i := 0) (.pointer (some ⟨rB, 0, none⟩)) rfl (by kernel_rfl) (by kernel_rfl) (by kernel_rfl) (by kernel_rfl) (fun _ _ _ h => h) (.inl ⟨by kernel_rfl, fun wy hy => by (go_simp; done)⟩) hHeld ?_
      try simp only [Act.put, List.setIfInBounds_toArray, List.set_cons_zero, List.set_cons_succ]
      refine AnyE.take (i := 1) (.pointer (some ⟨rB, 0, none⟩)) rfl (by kernel_rfl) (by kernel_rfl) (by kernel_rfl) (by kernel_rfl) (fun _ _ _ h => h) (.inl ⟨by kernel_rfl, fun wy hy => by (go_simp; done)⟩) hHeld ?_
      try simp only [Act.put, List.setIfInBounds_toArray, List.set_cons_zero, List.set_cons_succ]
      refine AnyE.take (i := 2) (.pointer (some ⟨rB, 1, none⟩)) rfl (by kernel_rfl) (by kernel_rfl) (by kernel_rfl) (by kernel_rfl) (fun _ _ _ h => h) (.inl ⟨by kernel_rfl, fun wy hy => by (go_simp; done)⟩) hHeld ?_
      try simp only [Act.put, List.setIfInBounds_toArray, List.set_cons_zero, List.set_cons_succ]
      refine AnyE.take (i := 3) (.slice (some ⟨g, 0, none⟩) n k) rfl (by kernel_rfl) (by kernel_rfl) (by kernel_rfl) (by kernel_rfl) (fun _ _ _ h => h) (.inl ⟨by kernel_rfl, fun wy hy => by (have q0 := (H5.out.1.below hy).box.cells.2.1; go_simp; done)⟩) hHeld ?_
      try simp only [Act.put, List.setIfInBounds_toArray, List.set_cons_zero, List.set_cons_succ]
      refine AnyE.take (i := 4) (.int .i64 (t : Int)) rfl (by kernel_rfl) (by kernel_rfl) (by kernel_rfl) (by kernel_rfl) (fun _ _ _ h => h) (.inl ⟨by kernel_rfl, fun wy hy => by (go_simp; done)⟩) hHeld ?_
      try simp only [Act.put, List.setIfInBounds_toArray, List.set_cons_zero, List.set_cons_succ]
      refine AnyE.take (i := 5) (.pointer (some ⟨rB, 0, none⟩)) rfl (by kernel_rfl) (by kernel_rfl) (by kernel_rfl) (by kernel_rfl) (fun _ _ _ h => h) (.inl ⟨by kernel_rfl, fun wy hy => by (go_simp; done)⟩) hHeld ?_
      try simp only [Act.put, List.setIfInBounds_toArray, List.set_cons_zero, List.set_cons_succ]
      refine AnyE.take (i := 6) (.pointer (some ⟨rB, 0, none⟩)) rfl (by kernel_rfl) (by kernel_rfl) (by kernel_rfl) (by kernel_rfl) (fun _ _ _ h => h) (.inl ⟨by kernel_rfl, fun wy hy => by (go_simp; done)⟩) hHeld ?_
      try simp only [Act.put, List.setIfInBounds_toArray, List.set_cons_zero, List.set_cons_succ]
      refine AnyE.take (i := 7) (.pointer (some ⟨rB, 1, none⟩)) rfl (by kernel_rfl) (by kernel_rfl) (by kernel_rfl) (by kernel_rfl) (fun _ _ _ h => h) (.inl ⟨by kernel_rfl, fun wy hy => by (go_simp; done)⟩) hHeld ?_
      try simp only [Act.put, List.setIfInBounds_toArray, List.set_cons_zero, List.set_cons_succ]
      refine AnyE.take (i := 8) (.slice (some ⟨g, 0, none⟩) n k) rfl (by kernel_rfl) (by kernel_rfl) (by kernel_rfl) (by kernel_rfl) (fun _ _ _ h => h) (.inl ⟨by kernel_rfl, fun wy hy => by (have q0 := (H5.out.1.below hy).box.cells.2.1; go_simp; done)⟩) hHeld ?_
      try simp only [Act.put, List.setIfInBounds_toArray, List.set_cons_zero, List.set_cons_succ]
      refine AnyE.take (i := 9) (.int .i64 (t : Int)) rfl (by kernel_rfl) (by kernel_rfl) (by kernel_rfl) (by kernel_rfl) (fun _ _ _ h => h) (.inl ⟨by kernel_rfl, fun wy hy => by (go_simp; done)⟩) hHeld ?_
      try simp only [Act.put, List.setIfInBounds_toArray, List.set_cons_zero, List.set_cons_succ]
      refine AnyE.take (i := 10) (.pointer (some ⟨g, t * 3, none⟩)) rfl (by kernel_rfl) (by kernel_rfl) (by kernel_rfl) (by kernel_rfl) (fun _ _ _ h => h) (.inl ⟨by kernel_rfl, fun wy hy => by (go_simp; done)⟩) hHeld ?_
      try simp only [Act.put, List.setIfInBounds_toArray, List.set_cons_zero, List.set_cons_succ]
      refine AnyE.take (i := 11) (.pointer (some ⟨g, t * 3 + 1, none⟩)) rfl (by kernel_rfl) (by kernel_rfl) (by kernel_rfl) (by kernel_rfl) (fun _ _ _ h => h) (.inl ⟨by kernel_rfl, fun wy hy => by (go_simp; done)⟩) hHeld ?_
      try simp only [Act.put, List.setIfInBounds_toArray, List.set_cons_zero, List.set_cons_succ]
      refine AnyE.take (i := 12) (.slice xa nx xc) rfl (by kernel_rfl) (by kernel_rfl) (by kernel_rfl) (by kernel_rfl) (fun _ _ _ h => h) (.inl ⟨by kernel_rfl, fun wy hy => by (have q0 := (hy.cell (p := ⟨g, t * 3 + 1, none⟩) l5).trans CX5.out; go_simp; done)⟩) hHeld ?_
      try simp only [Act.put, List.setIfInBounds_toArray, List.set_cons_zero, List.set_cons_succ]
      refine AnyE.take (i := 13) (.pointer (some ⟨rB, 0, none⟩)) rfl (by kernel_rfl) (by kernel_rfl) (by kernel_rfl) (by kernel_rfl) (fun _ _ _ h => h) (.inl ⟨by kernel_rfl, fun wy hy => by (go_simp; done)⟩) hHeld ?_
      try simp only [Act.put, List.setIfInBounds_toArray, List.set_cons_zero, List.set_cons_succ]
      refine AnyE.take (i := 14) (.pointer (some ⟨rB, 0, none⟩)) rfl (by kernel_rfl) (by kernel_rfl) (by kernel_rfl) (by kernel_rfl) (fun _ _ _ h => h) (.inl ⟨by kernel_rfl, fun wy hy => by (go_simp; done)⟩) hHeld ?_
      try simp only [Act.put, List.setIfInBounds_toArray, List.set_cons_zero, List.set_cons_succ]
      refine AnyE.take (i := 15) (.pointer (some ⟨rB, 1, none⟩)) rfl (by kernel_rfl) (by kernel_rfl) (by kernel_rfl) (by kernel_rfl) (fun _ _ _ h => h) (.inl ⟨by kernel_rfl, fun wy hy => by (go_simp; done)⟩) hHeld ?_
      try simp only [Act.put, List.setIfInBounds_toArray, List.set_cons_zero, List.set_cons_succ]
      refine AnyE.take (i := 16) (.slice (some ⟨g, 0, none⟩) n k) rfl (by kernel_rfl) (by kernel_rfl) (by kernel_rfl) (by kernel_rfl) (fun _ _ _ h => h) (.inl ⟨by kernel_rfl, fun wy hy => by (have q0 := (H5.out.1.below hy).box.cells.2.1; go_simp; done)⟩) hHeld ?_
      try simp only [Act.put, List.setIfInBounds_toArray, List.set_cons_zero, List.set_cons_succ]
      refine AnyE.take (i := 17) (.int .i64 (t : Int)) rfl (by kernel_rfl) (by kernel_rfl) (by kernel_rfl) (by kernel_rfl) (fun _ _ _ h => h) (.inl ⟨by kernel_rfl, fun wy hy => by (go_simp; done)⟩) hHeld ?_
      try simp only [Act.put, List.setIfInBounds_toArray, List.set_cons_zero, List.set_cons_succ]
      refine AnyE.take (i := 18) (.pointer (some ⟨g, t * 3, none⟩)) rfl (by kernel_rfl) (by kernel_rfl) (by kernel_rfl) (by kernel_rfl) (fun _ _ _ h => h) (.inl ⟨by kernel_rfl, fun wy hy => by (go_simp; done)⟩) hHeld ?_
      try simp only [Act.put, List.setIfInBounds_toArray, List.set_cons_zero, List.set_cons_succ]
      refine AnyE.take (i := 19) (.pointer (some ⟨g, t * 3 + 2, none⟩)) rfl (by kernel_rfl) (by kernel_rfl) (by kernel_rfl) (by kernel_rfl) (fun _ _ _ h => h) (.inl ⟨by kernel_rfl, fun wy hy => by (go_simp; done)⟩) hHeld ?_
      try simp only [Act.put, List.setIfInBounds_toArray, List.set_cons_zero, List.set_cons_succ]
      refine AnyE.take (i := 20) (.int .i64 (Y : Int)) rfl (by kernel_rfl) (by kernel_rfl) (by kernel_rfl) (by kernel_rfl) (fun _ _ _ h => h) (.inl ⟨by kernel_rfl, fun wy hy => by (have q0 := (hy.cell (p := ⟨g, t * 3 + 2, none⟩) l5).trans CS5.out; go_simp; done)⟩) hHeld ?_
      try simp only [Act.put, List.setIfInBounds_toArray, List.set_cons_zero, List.set_cons_succ]
      refine AnyE.take (i := 21) (.slice xa Y xc) rfl (by kernel_rfl) (by kernel_rfl) (by kernel_rfl) (by kernel_rfl) (fun _ _ _ h => h) (.inl ⟨by kernel_rfl, fun wy hy => by (have q0 := HYB.out.1; have q1 := HYB.out.2; have q2 : (0 : Int) ≤ (Y : Int) := (by omega); have q3 : (Y : Int) ≤ (xc : Int) := (by omega); go_simp; done)⟩) hHeld ?_
      try simp only [Act.put, List.setIfInBounds_toArray, List.set_cons_zero, List.set_cons_succ]
      refine AnyE.one (i := 22) rfl (by kernel_rfl) (by kernel_rfl) (fun KK hK => ?_)
      go_simp
      go_at_call 35
      have hx5 : (l2.set t ((x.1.1, x.1.2.1, Y), x.2))[t]? = some ((x.1.1, x.1.2.1, Y), x.2) := List.getElem?_set_self (List.getElem?_eq_some_iff.1 HX.out).1
      have hdz := ((H5.out.1.below HB.out).dat _ (List.mem_of_getElem? hx5))
      simp only at hdz
      rw [HXV.out.1] at hdz
      have hrd := hdz.rd (by have := HXL.out; have := HXV.out.2; omega)
      refine (rCopied_any (hrd.upto4 Y HYB.out.1) (by rw [List.length_take]; have := HXL.out; have := HXV.out.2; have := HYB.out.1; omega)).mono ?_
      rintro e9 Z6 ⟨ca, cc, rfl, hca, b6⟩
      have hlY : (x.1.2.1.take Y).length = Y := by rw [List.length_take]; have := HXV.out.2; have := HYB.out.1; omega
      have ho := OwnO.of_row hca (fun z hz => hdz.bys z (List.mem_of_mem_take hz))
      rw [hlY] at ho ⊢
      have HOC := Lib.hid ho
      have HX5 := Lib.hid hx5
      have hHeld0 := hHeld
      have hHeld : Below Z5.heap.size Z5 Z6 := hHeld0.trans (b6.mono hHeld0.size)
      have HB6 := Lib.hid b6
      clear hdz hca ho hHeld0 b6 hrd hlY hx5
      go_wp2_with fail
      refine hK.out _ _ ⟨fun _ => hHeld, ?_⟩
      clear hK
      try simp only [Act.put, List.setIfInBounds_toArray, List.set_cons_zero, List.set_cons_succ]
      refine AnyE.one (i := 23) rfl (by kernel_rfl) (by kernel_rfl) (fun KK hK => ?_)
      go_simp
      refine hK.out _ _ ⟨fun _ => hHeld, ?_⟩
      clear hK
      try simp only [Act.put, List.setIfInBounds_toArray, List.set_cons_zero, List.set_cons_succ]
      refine AnyE.one (i := 24) rfl (by kernel_rfl) (by kernel_rfl) (fun KK hK => ?_)
      go_simp
      refine hK.out _ _ ⟨fun _ => hHeld, ?_⟩
      clear hK
      try simp only [Act.put, List.setIfInBounds_toArray, List.set_cons_zero, List.set_cons_succ]
      refine AnyE.one (i := 25) rfl (by kernel_rfl) (by kernel_rfl) (fun KK hK => ?_)
      have hM6 := H5.out.1.below HB.out
      have gr6 : Z0.grownBy Z6 x.2.ownBlock := ⟨HB6.out.os, HB6.out.tape, HB6.out.output, HB6.out.size, fun j hj _ => HB6.out.block j hj⟩
      have hsd := hM6.setDat (i := t) HX5.out gr6 (HOC.out.kept (fun q hq => ⟨rfl, .inr (HOC.out.blk q hq)⟩)) (fun q hq => .inr (HOC.out.blk q hq).1) HB6.out.size
      have z6 : Z6.frozen? ⟨g, t * 3 + 1, none⟩ = false := (hHeld.frozen (p := ⟨g, t * 3 + 1, none⟩) l5).trans (row_fz H5.out.1.row rfl _)
      have q6 : Z6.cell? ⟨g, t * 3 + 1, none⟩ = some (.slice xa nx xc) := (hHeld.cell (p := ⟨g, t * 3 + 1, none⟩) l5).trans CX5.out
      go_simp
      refine hK.out _ _ ⟨fun h => (by cases h), ?_⟩
      clear hK
      try simp only [Act.put, List.setIfInBounds_toArray, List.set_cons_zero, List.set_cons_succ]
      refine AnyE.done (by kernel_rfl) (NoPanic.normal ?_) _
      have hgo6 := H5.out.2.trans ((Go4.of_below (O := O2) HB.out).trans hsd.2.2)
      have H7 := Lib.hid (And.intro hsd.1 hgo6)
      have hW7 : ∃ z, z = Z6.setCell ⟨g, t * 3 + 1, none⟩ (.slice ca Y cc) := ⟨_, rfl⟩
      obtain ⟨W7, hW7⟩ := hW7
      rw [← hW7] at H7 ⊢
      clear hM6 gr6 hsd z6 q6 hHeld hgo6 hW7
      go_simp
      go_step
      go_wp2
      go_roundw
      case rel => exact ⟨t + 1, kk + 1, _, _, by omega, by have := HKT.out; omega, by go_num, by go_num, H7.out.1, H7.out.2, by simp only [List.length_set]; exact HLN.out, crash_step HFS.out HX.out (by rw [← HXV.out.2]; exact HNE.out) HYK.out⟩
      case measure => simp [intOf]; omega
     ·have hY : ∃ Y : Nat, Y = xs + st.toNat := ⟨_, rfl⟩
      obtain ⟨Y, hY⟩ := hY
      have HYE : Hid (IntKind.i64.wrap ((xs : Int) + st) = (Y : Int)) := by
       unfold Hid
       rw [IntWalk.i64_in _ ⟨by omega, by omega⟩]
       omega
      have HYE2 : Hid (IntKind.i64.wrap (xs : Int) = (xs : Int)) := IntWalk.i64_in _ ⟨by omega, by omega⟩
      have hYB : Y ≤ nx ∧ nx ≤ xc := ⟨by omega, HXC.out⟩
      have HYB := Lib.hid hYB
      have HYK : Hid (crash1 cuts kk x.1.2 = (x.1.2.1.take Y, Y)) := by
       unfold crash1 Hid
       rw [if_neg (by have := HNE.out; have := HXV.out.2; have := HXS.out; omega)]
       have : keepN x.1.2.2 x.1.2.1.length (cuts.getD kk 0) = Y := by
        unfold keepN
        rw [← HXV.out.2, ← HXS.out]
        rw [HGD.out]
        omega
       rw [this]
      clear hY hYB
      go_upto_region 13 with fail
      have BD : Below Y0.heap.size Y0 Y0.drew := (Below.refl _ _).drew
      refine wp_region_noPanic ?_
      refine wp_region_anyE (S := fun wx => Below Y0.heap.size Y0 wx) (E := fun j => !(decide (j = 17))) (by kernel_rfl) ?_
      have hHeld : Below Y0.heap.size Y0 Y0.drew := BD
      have HB := Lib.hid BD
      have hZ0 : ∃ z, z = Y0.drew := ⟨_, rfl⟩
      obtain ⟨Z0, hZ0⟩ := hZ0
      rw [← hZ0] at HB hHeld ⊢
      clear hZ0 BD
      refine AnyE.take (i := 0) (.pointer (some ⟨rB, 0, none⟩)) rfl (by kernel_rfl) (by kernel_rfl) (by kernel_rfl) (by kernel_rfl) (fun _ _ _ h => h) (.inl ⟨by kernel_rfl, fun wy hy => by (go_simp; done)⟩) hHeld ?_
      try simp only [Act.put, List.setIfInBounds_toArray, List.set_cons_zero, List.set_cons_succ]
      refine AnyE.take (i := 1) (.pointer (some ⟨rB, 0, none⟩)) rfl (by kernel_rfl) (by kernel_rfl) (by kernel_rfl) (by kernel_rfl) (fun _ _ _ h => h) (.inl ⟨by kernel_rfl, fun wy hy => by (go_simp; done)⟩) hHeld ?_
      try simp only [Act.put, List.setIfInBounds_toArray, List.set_cons_zero, List.set_cons_succ]
      refine AnyE.take (i := 2) (.pointer (some ⟨rB, 1, none⟩)) rfl (by kernel_rfl) (by kernel_rfl) (by kernel_rfl) (by kernel_rfl) (fun _ _ _ h => h) (.inl ⟨by kernel_rfl, fun wy hy => by (go_simp; done)⟩) hHeld ?_
      try simp only [Act.put, List.setIfInBounds_toArray, List.set_cons_zero, List.set_cons_succ]
      refine AnyE.take (i := 3) (.slice (some ⟨g, 0, none⟩) n k) rfl (by kernel_rfl) (by kernel_rfl) (by kernel_rfl) (by kernel_rfl) (fun _ _ _ h => h) (.inl ⟨by kernel_rfl, fun wy hy => by (have q0 := (HM0.out.below hy).box.cells.2.1; go_simp; done)⟩) hHeld ?_
      try simp only [Act.put, List.setIfInBounds_toArray, List.set_cons_zero, List.set_cons_succ]
      refine AnyE.take (i := 4) (.int .i64 (t : Int)) rfl (by kernel_rfl) (by kernel_rfl) (by kernel_rfl) (by kernel_rfl) (fun _ _ _ h => h) (.inl ⟨by kernel_rfl, fun wy hy => by (go_simp; done)⟩) hHeld ?_
      try simp only [Act.put, List.setIfInBounds_toArray, List.set_cons_zero, List.set_cons_succ]
      refine AnyE.take (i := 5) (.pointer (some ⟨rB, 0, none⟩)) rfl (by kernel_rfl) (by kernel_rfl) (by kernel_rfl) (by kernel_rfl) (fun _ _ _ h => h) (.inl ⟨by kernel_rfl, fun wy hy => by (go_simp; done)⟩) hHeld ?_
      try simp only [Act.put, List.setIfInBounds_toArray, List.set_cons_zero, List.set_cons_succ]
      refine AnyE.take (i := 6) (.pointer (some ⟨rB, 0, none⟩)) rfl (by kernel_rfl) (by kernel_rfl) (by kernel_rfl) (by kernel_rfl) (fun _ _ _ h => h) (.inl ⟨by kernel_rfl, fun wy hy => by (go_simp; done)⟩) hHeld ?_
      try simp only [Act.put, List.setIfInBounds_toArray, List.set_cons_zero, List.set_cons_succ]
      refine AnyE.take (i := 7) (.pointer (some ⟨rB, 1, none⟩)) rfl (by kernel_rfl) (by kernel_rfl) (by kernel_rfl) (by kernel_rfl) (fun _ _ _ h => h) (.inl ⟨by kernel_rfl, fun wy hy => by (go_simp; done)⟩) hHeld ?_
      try simp only [Act.put, List.setIfInBounds_toArray, List.set_cons_zero, List.set_cons_succ]
      refine AnyE.take (i := 8) (.slice (some ⟨g, 0, none⟩) n k) rfl (by kernel_rfl) (by kernel_rfl) (by kernel_rfl) (by kernel_rfl) (fun _ _ _ h => h) (.inl ⟨by kernel_rfl, fun wy hy => by (have q0 := (HM0.out.below hy).box.cells.2.1; go_simp; done)⟩) hHeld ?_
      try simp only [Act.put, List.setIfInBounds_toArray, List.set_cons_zero, List.set_cons_succ]
      refine AnyE.take (i := 9) (.int .i64 (t : Int)) rfl (by kernel_rfl) (by kernel_rfl) (by kernel_rfl) (by kernel_rfl) (fun _ _ _ h => h) (.inl ⟨by kernel_rfl, fun wy hy => by (go_simp; done)⟩) hHeld ?_
      try simp only [Act.put, List.setIfInBounds_toArray, List.set_cons_zero, List.set_cons_succ]
      refine AnyE.take (i := 10) (.pointer (some ⟨g, t * 3, none⟩)) rfl (by kernel_rfl) (by kernel_rfl) (by kernel_rfl) (by kernel_rfl) (fun _ _ _ h => h) (.inl ⟨by kernel_rfl, fun wy hy => by (go_simp; done)⟩) hHeld ?_
      try simp only [Act.put, List.setIfInBounds_toArray, List.set_cons_zero, List.set_cons_succ]
      refine AnyE.take (i := 11) (.pointer (some ⟨g, t * 3 + 2, none⟩)) rfl (by kernel_rfl) (by kernel_rfl) (by kernel_rfl) (by kernel_rfl) (fun _ _ _ h => h) (.inl ⟨by kernel_rfl, fun wy hy => by (go_simp; done)⟩) hHeld ?_
      try simp only [Act.put, List.setIfInBounds_toArray, List.set_cons_zero, List.set_cons_succ]
      refine AnyE.take (i := 12) (.int .i64 (xs : Int)) rfl (by kernel_rfl) (by kernel_rfl) (by kernel_rfl) (by kernel_rfl) (fun _ _ _ h => h) (.inl ⟨by kernel_rfl, fun wy hy => by (have q0 := (hy.cell (p := ⟨g, t * 3 + 2, none⟩) lg0).trans CS0.out; go_simp; done)⟩) hHeld ?_
      try simp only [Act.put, List.setIfInBounds_toArray, List.set_cons_zero, List.set_cons_succ]
      refine AnyE.take (i := 13) (.int .i64 st) rfl (by kernel_rfl) (by kernel_rfl) (by kernel_rfl) (by kernel_rfl) (fun _ _ _ h => h) (.inl ⟨by kernel_rfl, fun wy hy => by (go_simp; done)⟩) hHeld ?_
      try simp only [Act.put, List.setIfInBounds_toArray, List.set_cons_zero, List.set_cons_succ]
      refine AnyE.take (i := 14) (.int .i64 (Y : Int)) rfl (by kernel_rfl) (by kernel_rfl) (by kernel_rfl) (by kernel_rfl) (fun _ _ _ h => h) (.inl ⟨by kernel_rfl, fun wy hy => by (have q0 := HYE.out; have q1 := HYE2.out; go_simp; done)⟩) hHeld ?_
      try simp only [Act.put, List.setIfInBounds_toArray, List.set_cons_zero, List.set_cons_succ]
      refine AnyE.one (i := 15) rfl (by kernel_rfl) (by kernel_rfl) (fun KK hK => ?_)
      go_simp
      refine hK.out _ _ ⟨fun _ => hHeld, ?_⟩
      clear hK
      try simp only [Act.put, List.setIfInBounds_toArray, List.set_cons_zero, List.set_cons_succ]
      refine AnyE.one (i := 16) rfl (by kernel_rfl) (by kernel_rfl) (fun KK hK => ?_)
      go_simp
      refine hK.out _ _ ⟨fun _ => hHeld, ?_⟩
      clear hK
      try simp only [Act.put, List.setIfInBounds_toArray, List.set_cons_zero, List.set_cons_succ]
      refine AnyE.one (i := 17) rfl (by kernel_rfl) (by kernel_rfl) (fun KK hK => ?_)
      have z2 : Z0.frozen? ⟨g, t * 3 + 2, none⟩ = false := (HB.out.frozen (p := ⟨g, t * 3 + 2, none⟩) lg0).trans (row_fz HM0.out.row rfl _)
      have q2 : Z0.cell? ⟨g, t * 3 + 2, none⟩ = some (.int .i64 (xs : Int)) := (HB.out.cell (p := ⟨g, t * 3 + 2, none⟩) lg0).trans CS0.out
      go_simp
      refine hK.out _ _ ⟨fun h => (by cases h), ?_⟩
      clear hK
      try simp only [Act.put, List.setIfInBounds_toArray, List.set_cons_zero, List.set_cons_succ]
      refine AnyE.done (by kernel_rfl) (NoPanic.normal ?_) _
      have h5 := (HM0.out.below HB.out).setSyn HX.out Y
      have g5 := HG0.out.trans ((Go4.of_below (O := O2) HB.out).trans (Go4.of_set (a := ⟨g, t * 3 + 2, none⟩) h5.2 (.int .i64 (Y : Int))))
      have q1 : (Z0.setCell ⟨g, t * 3 + 2, none⟩ (.int .i64 (Y : Int))).cell? ⟨g, t * 3 + 1, none⟩ = some (.slice xa nx xc) := by
       have q0 := (HB.out.cell (p := ⟨g, t * 3 + 1, none⟩) lg0).trans CX0.out
       simp [go_sem, q0]
      have q3 : (Z0.setCell ⟨g, t * 3 + 2, none⟩ (.int .i64 (Y : Int))).cell? ⟨g, t * 3 + 2, none⟩ = some (.int .i64 (Y : Int)) := by
       simp [go_sem, q2]
      have l5 : g < (Z0.setCell ⟨g, t * 3 + 2, none⟩ (.int .i64 (Y : Int))).heap.size := by simp [World.setCell]; exact Nat.lt_of_lt_of_le lg0 HB.out.size
      have hZ5 : ∃ z, z = Z0.setCell ⟨g, t * 3 + 2, none⟩ (.int .i64 (Y : Int)) := ⟨_, rfl⟩
      obtain ⟨Z5, hZ5⟩ := hZ5
      rw [← hZ5] at h5 g5 q1 q3 l5 ⊢
      have H5 := Lib.hid (And.intro h5.1 g5)
      have CX5 := Lib.hid q1
      have CS5 := Lib.hid q3
      clear h5 g5 hZ5 hHeld z2 q2 q1 q3 HB
      go_simp
      go_step
      go_upto_region 14 with fail
      have BD : Below Z5.heap.size Z5 Z5.drew := (Below.refl _ _).drew
      refine wp_region_noPanic ?_
      refine wp_region_anyE (S := fun wx => Below Z5.heap.size Z5 wx) (E := fun j => !(decide (j = 25))) (by kernel_rfl) ?_
      have hHeld : Below Z5.heap.size Z5 Z5.drew := BD
      have HB := Lib.hid BD
      have hZ0 : ∃ z, z = Z5.drew := ⟨_, rfl⟩
      obtain ⟨Z0, hZ0⟩ := hZ0
      rw [← hZ0] at HB hHeld ⊢
      clear hZ0 BD
      refine AnyE.take (i := 0) (.pointer (some ⟨rB, 0, none⟩)) rfl (by kernel_rfl) (by kernel_rfl) (by kernel_rfl) (by kernel_rfl) (fun _ _ _ h => h) (.inl ⟨by kernel_rfl, fun wy hy => by (go_simp; done)⟩) hHeld ?_
      try simp only [Act.put, List.setIfInBounds_toArray, List.set_cons_zero, List.set_cons_succ]
      refine AnyE.take (i := 1) (.pointer (some ⟨rB, 0, none⟩)) rfl (by kernel_rfl) (by kernel_rfl) (by kernel_rfl) (by kernel_rfl) (fun _ _ _ h => h) (.inl ⟨by kernel_rfl, fun wy hy => by (go_simp; done)⟩) hHeld ?_
      try simp only [Act.put, List.setIfInBounds_toArray, List.set_cons_zero, List.set_cons_succ]
      refine AnyE.take (i := 2) (.pointer (some ⟨rB, 1, none⟩)) rfl (by kernel_rfl) (by kernel_rfl) (by kernel_rfl) (by kernel_rfl) (fun _ _ _ h => h) (.inl ⟨by kernel_rfl, fun wy hy => by (go_simp; done)⟩) hHeld ?_
      try simp only [Act.put, List.setIfInBounds_toArray, List.set_cons_zero, List.set_cons_succ]
      refine AnyE.take (i := 3) (.slice (some ⟨g, 0, none⟩) n k) rfl (by kernel_rfl) (by kernel_rfl) (by kernel_rfl) (by kernel_rfl) (fun _ _ _ h => h) (.inl ⟨by kernel_rfl, fun wy hy => by (have q0 := (H5.out.1.below hy).box.cells.2.1; go_simp; done)⟩) hHeld ?_
      try simp only [Act.put, List.setIfInBounds_toArray, List.set_cons_zero, List.set_cons_succ]
      refine AnyE.take (i := 4) (.int .i64 (t : Int)) rfl (by kernel_rfl) (by kernel_rfl) (by kernel_rfl) (by kernel_rfl) (fun _ _ _ h => h) (.inl ⟨by kernel_rfl, fun wy hy => by (go_simp; done)⟩) hHeld ?_
      try simp only [Act.put, List.setIfInBounds_toArray, List.set_cons_zero, List.set_cons_succ]
      refine AnyE.take (i := 5) (.pointer (some ⟨rB, 0, none⟩)) rfl (by kernel_rfl) (by kernel_rfl) (by kernel_rfl) (by kernel_rfl) (fun _ _ _ h => h) (.inl ⟨by kernel_rfl, fun wy hy => by (go_simp; done)⟩) hHeld ?_
      try simp only [Act.put, List.setIfInBounds_toArray, List.set_cons_zero, List.set_cons_succ]
      refine AnyE.take (i := 6) (.pointer (some ⟨rB, 0, none⟩)) rfl (by kernel_rfl) (by kernel_rfl) (by kernel_rfl) (by kernel_rfl) (fun _ _ _ h => h) (.inl ⟨by kernel_rfl, fun wy hy => by (go_simp; done)⟩) hHeld ?_
      try simp only [Act.put, List.setIfInBounds_toArray, List.set_cons_zero, List.set_cons_succ]
      refine AnyE.take (i := 7) (.pointer (some ⟨rB, 1, none⟩)) rfl (by kernel_rfl) (by kernel_rfl) (by kernel_rfl) (by kernel_rfl) (fun _ _ _ h => h) (.inl ⟨by kernel_rfl, fun wy hy => by (go_simp; done)⟩) hHeld ?_
      try simp only [Act.put, List.setIfInBounds_toArray, List.set_cons_zero, List.set_cons_succ]
      refine AnyE.take (i := 8) (.slice (some ⟨g, 0, none⟩) n k) rfl (by kernel_rfl) (by kernel_rfl) (by kernel_rfl) (by kernel_rfl) (fun _ _ _ h => h) (.inl ⟨by kernel_rfl, fun wy hy => by (have q0 := (H5.out.1.below hy).box.cells.2.1; go_simp; done)⟩) hHeld ?_
      try simp only [Act.put, List.setIfInBounds_toArray, List.set_cons_zero, List.set_cons_succ]
      refine AnyE.take (i := 9) (.int .i64 (t : Int)) rfl (by kernel_rfl) (by kernel_rfl) (by kernel_rfl) (by kernel_rfl) (fun _ _ _ h => h) (.inl ⟨by kernel_rfl, fun wy hy => by (go_simp; done)⟩) hHeld ?_
      try simp only [Act.put, List.setIfInBounds_toArray, List.set_cons_zero, List.set_cons_succ]
      refine AnyE.take (i := 10) (.pointer (some ⟨g, t * 3, none⟩)) rfl (by kernel_rfl) (by kernel_rfl) (by kernel_rfl) (by kernel_rfl) (fun _ _ _ h => h) (.inl ⟨by kernel_rfl, fun wy hy => by (go_simp; done)⟩) hHeld ?_
      try simp only [Act.put, List.setIfInBounds_toArray, List.set_cons_zero, List.set_cons_succ]
      refine AnyE.take (i := 11) (.pointer (some ⟨g, t * 3 + 1, none⟩)) rfl (by kernel_rfl) (by kernel_rfl) (by kernel_rfl) (by kernel_rfl) (fun _ _ _ h => h) (.inl ⟨by kernel_rfl, fun wy hy => by (go_simp; done)⟩) hHeld ?_
      try simp only [Act.put, List.setIfInBounds_toArray, List.set_cons_zero, List.set_cons_succ]
      refine AnyE.take (i := 12) (.slice xa nx xc) rfl (by kernel_rfl) (by kernel_rfl) (by kernel_rfl) (by kernel_rfl) (fun _ _ _ h => h) (.inl ⟨by kernel_rfl, fun wy hy => by (have q0 := (hy.cell (p := ⟨g, t * 3 + 1, none⟩) l5).trans CX5.out; go_simp; done)⟩) hHeld ?_
      try simp only [Act.put, List.setIfInBounds_toArray, List.set_cons_zero, List.set_cons_succ]
      refine AnyE.take (i := 13) (.pointer (some ⟨rB, 0, none⟩)) rfl (by kernel_rfl) (by kernel_rfl) (by kernel_rfl) (by kernel_rfl) (fun _ _ _ h => h) (.inl ⟨by kernel_rfl, fun wy hy => by (go_simp; done)⟩) hHeld ?_
      try simp only [Act.put, List.setIfInBounds_toArray, List.set_cons_zero, List.set_cons_succ]
      refine AnyE.take (i := 14) (.pointer (some ⟨rB, 0, none⟩)) rfl (by kernel_rfl) (by kernel_rfl) (by kernel_rfl) (by kernel_rfl) (fun _ _ _ h => h) (.inl ⟨by kernel_rfl, fun wy hy => by (go_simp; done)⟩) hHeld ?_
      try simp only [Act.put, List.setIfInBounds_toArray, List.set_cons_zero, List.set_cons_succ]
      refine AnyE.take (i := 15) (.pointer (some ⟨rB, 1, none⟩)) rfl (by kernel_rfl) (by kernel_rfl) (by kernel_rfl) (by kernel_rfl) (fun _ _ _ h => h) (.inl ⟨by kernel_rfl, fun wy hy => by (go_simp; done)⟩) hHeld ?_
      try simp only [Act.put, List.setIfInBounds_toArray, List.set_cons_zero, List.set_cons_succ]
      refine AnyE.take (i := 16) (.slice (some ⟨g, 0, none⟩) n k) rfl (by kernel_rfl) (by kernel_rfl) (by kernel_rfl) (by kernel_rfl) (fun _ _ _ h => h) (.inl ⟨by kernel_rfl, fun wy hy => by (have q0 := (H5.out.1.below hy).box.cells.2.1; go_simp; done)⟩) hHeld ?_
      try simp only [Act.put, List.setIfInBounds_toArray, List.set_cons_zero, List.set_cons_succ]
      refine AnyE.take (i := 17) (.int .i64 (t : Int)) rfl (by kernel_rfl) (by kernel_rfl) (by kernel_rfl) (by kernel_rfl) (fun _ _ _ h => h) (.inl ⟨by kernel_rfl, fun wy hy => by (go_simp; done)⟩) hHeld ?_
      try simp only [Act.put, List.setIfInBounds_toArray, List.set_cons_zero, List.set_cons_succ]
      refine AnyE.take (i := 18) (.pointer (some ⟨g, t * 3, none⟩)) rfl (by kernel_rfl) (by kernel_rfl) (by kernel_rfl) (by kernel_rfl) (fun _ _ _ h => h) (.inl ⟨by kernel_rfl, fun wy hy => by (go_simp; done)⟩) hHeld ?_
      try simp only [Act.put, List.setIfInBounds_toArray, List.set_cons_zero, List.set_cons_succ]
      refine AnyE.take (i := 19) (.pointer (some ⟨g, t * 3 + 2, none⟩)) rfl (by kernel_rfl) (by kernel_rfl) (by kernel_rfl) (by kernel_rfl) (fun _ _ _ h => h) (.inl ⟨by kernel_rfl, fun wy hy => by (go_simp; done)⟩) hHeld ?_
      try simp only [Act.put, List.setIfInBounds_toArray, List.set_cons_zero, List.set_cons_succ]
      refine AnyE.take (i := 20) (.int .i64 (Y : Int)) rfl (by kernel_rfl) (by kernel_rfl) (by kernel_rfl) (by kernel_rfl) (fun _ _ _ h => h) (.inl ⟨by kernel_rfl, fun wy hy => by (have q0 := (hy.cell (p := ⟨g, t * 3 + 2, none⟩) l5).trans CS5.out; go_simp; done)⟩) hHeld ?_
      try simp only [Act.put, List.setIfInBounds_toArray, List.set_cons_zero, List.set_cons_succ]
      refine AnyE.take (i := 21) (.slice xa Y xc) rfl (by kernel_rfl) (by kernel_rfl) (by kernel_rfl) (by kernel_rfl) (fun _ _ _ h => h) (.inl ⟨by kernel_rfl, fun wy hy => by (have q0 := HYB.out.1; have q1 := HYB.out.2; have q2 : (0 : Int) ≤ (Y : Int) := (by omega); have q3 : (Y : Int) ≤ (xc : Int) := (by omega); go_simp; done)⟩) hHeld ?_
      try simp only [Act.put, List.setIfInBounds_toArray, List.set_cons_zero, List.set_cons_succ]
      refine AnyE.one (i := 22) rfl (by kernel_rfl) (by kernel_rfl) (fun KK hK => ?_)
      go_simp
      go_at_call 35
      have hx5 : (l2.set t ((x.1.1, x.1.2.1, Y), x.2))[t]? = some ((x.1.1, x.1.2.1, Y), x.2) := List.getElem?_set_self (List.getElem?_eq_some_iff.1 HX.out).1
      have hdz := ((H5.out.1.below HB.out).dat _ (List.mem_of_getElem? hx5))
      simp only at hdz
      rw [HXV.out.1] at hdz
      have hrd := hdz.rd (by have := HXL.out; have := HXV.out.2; omega)
      refine (rCopied_any (hrd.upto4 Y HYB.out.1) (by rw [List.length_take]; have := HXL.out; have := HXV.out.2; have := HYB.out.1; omega)).mono ?_
      rintro e9 Z6 ⟨ca, cc, rfl, hca, b6⟩
      have hlY : (x.1.2.1.take Y).length = Y := by rw [List.length_take]; have := HXV.out.2; have := HYB.out.1; omega
      have ho := OwnO.of_row hca (fun z hz => hdz.bys z (List.mem_of_mem_take hz))
      rw [hlY] at ho ⊢
      have HOC := Lib.hid ho
      have HX5 := Lib.hid hx5
      have hHeld0 := hHeld
      have hHeld : Below Z5.heap.size Z5 Z6 := hHeld0.trans (b6.mono hHeld0.size)
      have HB6 := Lib.hid b6
      clear hdz hca ho hHeld0 b6 hrd hlY hx5
      go_wp2_with fail
      refine hK.out _ _ ⟨fun _ => hHeld, ?_⟩
      clear hK
      try simp only [Act.put, List.setIfInBounds_toArray, List.set_cons_zero, List.set_cons_succ]
      refine AnyE.one (i := 23) rfl (by kernel_rfl) (by kernel_rfl) (fun KK hK => ?_)
      go_simp
      refine hK.out _ _ ⟨fun _ => hHeld, ?_⟩
      clear hK
      try simp only [Act.put, List.setIfInBounds_toArray, List.set_cons_zero, List.set_cons_succ]
      refine AnyE.one (i := 24) rfl (by kernel_rfl) (by kernel_rfl) (fun KK hK => ?_)
      go_simp
      refine hK.out _ _ ⟨fun _ => hHeld, ?_⟩
      clear hK
      try simp only [Act.put, List.setIfInBounds_toArray, List.set_cons_zero, List.set_cons_succ]
      refine AnyE.one (i := 25) rfl (by kernel_rfl) (by kernel_rfl) (fun KK hK => ?_)
      have hM6 := H5.out.1.below HB.out
      have gr6 : Z0.grownBy Z6 x.2.ownBlock := ⟨HB6.out.os, HB6.out.tape, HB6.out.output, HB6.out.size, fun j hj _ => HB6.out.block j hj⟩
      have hsd := hM6.setDat (i := t) HX5.out gr6 (HOC.out.kept (fun q hq => ⟨rfl, .inr (HOC.out.blk q hq)⟩)) (fun q hq => .inr (HOC.out.blk q hq).1) HB6.out.size
      have z6 : Z6.frozen? ⟨g, t * 3 + 1, none⟩ = false := (hHeld.frozen (p := ⟨g, t * 3 + 1, none⟩) l5).trans (row_fz H5.out.1.row rfl _)
      have q6 : Z6.cell? ⟨g, t * 3 + 1, none⟩ = some (.slice xa nx xc) := (hHeld.cell (p := ⟨g, t * 3 + 1, none⟩) l5).trans CX5.out
      go_simp
      refine hK.out _ _ ⟨fun h => (by cases h), ?_⟩
      clear hK
      try simp only [Act.put, List.setIfInBounds_toArray, List.set_cons_zero, List.set_cons_succ]
      refine AnyE.done (by kernel_rfl) (NoPanic.normal ?_) _
      have hgo6 := H5.out.2.trans ((Go4.of_below (O := O2) HB.out).trans hsd.2.2)
      have H7 := Lib.hid (And.intro hsd.1 hgo6)
      have hW7 : ∃ z, z = Z6.setCell ⟨g, t * 3 + 1, none⟩ (.slice ca Y cc) := ⟨_, rfl⟩
      obtain ⟨W7, hW7⟩ := hW7
      rw [← hW7] at H7 ⊢
      clear hM6 gr6 hsd z6 q6 hHeld hgo6 hW7
      go_simp
      go_step
      go_wp2
      go_roundw
      case rel => exact ⟨t + 1, kk + 1, _, _, by omega, by have := HKT.out; omega, by go_num, by go_num, H7.out.1, H7.out.2, by simp only [List.length_set]; exact HLN.out, crash_step HFS.out HX.out (by rw [← HXV.out.2]; exact HNE.out) HYK.out⟩
      case measure => simp [intOf]; omega
    ·have HST := Lib.hid hst0
     have hY : ∃ Y : Nat, Y = xs := ⟨_, rfl⟩
     obtain ⟨Y, hY⟩ := hY
     have HYE : Hid (IntKind.i64.wrap (xs : Int) = (Y : Int)) := by
      unfold Hid
      rw [IntWalk.i64_in _ ⟨by omega, by omega⟩]
      omega
     have HYE2 := HYE
     have hYB : Y ≤ nx ∧ nx ≤ xc := ⟨by omega, HXC.out⟩
     have HYB := Lib.hid hYB
     have HYK : Hid (crash1 cuts kk x.1.2 = (x.1.2.1.take Y, Y)) := by
      unfold crash1 Hid
      rw [if_neg (by have := HNE.out; have := HXV.out.2; have := HXS.out; omega)]
      have : keepN x.1.2.2 x.1.2.1.length (cuts.getD kk 0) = Y := by
       unfold keepN
       rw [← HXV.out.2, ← HXS.out]
       rw [HGD.out]
       have := HST.out
       omega
      rw [this]
     clear hY hYB
     go_upto_region 13 with fail
     have BD : Below Y0.heap.size Y0 Y0.drew := (Below.refl _ _).drew
     refine wp_region_noPanic ?_
     refine wp_region_anyE (S := fun wx => Below Y0.heap.size Y0 wx) (E := fun j => !(decide (j = 17))) (by kernel_rfl) ?_
     have hHeld : Below Y0.heap.size Y0 Y0.drew := BD
     have HB := Lib.hid BD
     have hZ0 : ∃ z, z = Y0.drew := ⟨_, rfl⟩
     obtain ⟨Z0, hZ0⟩ := hZ0
     rw [← hZ0] at HB hHeld ⊢
     clear hZ0 BD
     refine AnyE.take (i := 0) (.pointer (some ⟨rB, 0, none⟩)) rfl (by kernel_rfl) (by kernel_rfl) (by kernel_rfl) (by kernel_rfl) (fun _ _ _ h => h) (.inl ⟨by kernel_rfl, fun wy hy => by (go_simp; done)⟩) hHeld ?_
     try simp only [Act.put, List.setIfInBounds_toArray, List.set_cons_zero, List.set_cons_succ]
     refine AnyE.take (i := 1) (.pointer (some ⟨rB, 0, none⟩)) rfl (by kernel_rfl) (by kernel_rfl) (by kernel_rfl) (by kernel_rfl) (fun _ _ _ h => h) (.inl ⟨by kernel_rfl, fun wy hy => by (go_simp; done)⟩) hHeld ?_
     try simp only [Act.put, List.setIfInBounds_toArray, List.set_cons_zero, List.set_cons_succ]
     refine AnyE.take (i := 2) (.pointer (some ⟨rB, 1, none⟩)) rfl (by kernel_rfl) (by kernel_rfl) (by kernel_rfl) (by kernel_rfl) (fun _ _ _ h => h) (.inl ⟨by kernel_rfl, fun wy hy => by (go_simp; done)⟩) hHeld ?_
     try simp only [Act.put, List.setIfInBounds_toArray, List.set_cons_zero, List.set_cons_succ]
     refine AnyE.take (i := 3) (.slice (some ⟨g, 0, none⟩) n k) rfl (by kernel_rfl) (by kernel_rfl) (by kernel_rfl) (by kernel_rfl) (fun _ _ _ h => h) (.inl ⟨by kernel_rfl, fun wy hy => by (have q0 := (HM0.out.below hy).box.cells.2.1; go_simp; done)⟩) hHeld ?_
     try simp only [Act.put, List.setIfInBounds_toArray, List.set_cons_zero, List.set_cons_succ]
     refine AnyE.take (i := 4) (.int .i64 (t : Int)) rfl (by kernel_rfl) (by kernel_rfl) (by kernel_rfl) (by kernel_rfl) (fun _ _ _ h => h) (.inl ⟨by kernel_rfl, fun wy hy => by (go_simp; done)⟩) hHeld ?_
     try simp only [Act.put, List.setIfInBounds_toArray, List.set_cons_zero, List.set_cons_succ]
     refine AnyE.take (i := 5) (.pointer (some ⟨rB, 0, none⟩)) rfl (by kernel_rfl) (by kernel_rfl) (by kernel_rfl) (by kernel_rfl) (fun _ _ _ h => h) (.inl ⟨by kernel_rfl, fun wy hy => by (go_simp; done)⟩) hHeld ?_
     try simp only [Act.put, List.setIfInBounds_toArray, List.set_cons_zero, List.set_cons_succ]
     refine AnyE.take (i := 6) (.pointer (some ⟨rB, 0, none⟩)) rfl (by kernel_rfl) (by kernel_rfl) (by kernel_rfl) (by kernel_rfl) (fun _ _ _ h => h) (.inl ⟨by kernel_rfl, fun wy hy => by (go_simp; done)⟩) hHeld ?_
     try simp only [Act.put, List.setIfInBounds_toArray, List.set_cons_zero, List.set_cons_succ]
     refine AnyE.take (i := 7) (.pointer (some ⟨rB, 1, none⟩)) rfl (by kernel_rfl) (by kernel_rfl) (by kernel_rfl) (by kernel_rfl) (fun _ _ _ h => h) (.inl ⟨by kernel_rfl, fun wy hy => by (go_simp; done)⟩) hHeld ?_
     try simp only [Act.put, List.setIfInBounds_toArray, List.set_cons_zero, List.set_cons_succ]
     refine AnyE.take (i := 8) (.slice (some ⟨g, 0, none⟩) n k) rfl (by kernel_rfl) (by kernel_rfl) (by kernel_rfl) (by kernel_rfl) (fun _ _ _ h => h) (.inl ⟨by kernel_rfl, fun wy hy => by (have q0 := (HM0.out.below hy).box.cells.2.1; go_simp; done)⟩) hHeld ?_
     try simp only [Act.put, List.setIfInBounds_toArray, List.set_cons_zero, List.set_cons_succ]
     refine AnyE.take (i := 9) (.int .i64 (t : Int)) rfl (by kernel_rfl) (by kernel_rfl) (by kernel_rfl) (by kernel_rfl) (fun _ _ _ h => h) (.inl ⟨by kernel_rfl, fun wy hy => by (go_simp; done)⟩) hHeld ?_
     try simp only [Act.put, List.setIfInBounds_toArray, List.set_cons_zero, List.set_cons_succ]
     refine AnyE.take (i := 10) (.pointer (some ⟨g, t * 3, none⟩)) rfl (by kernel_rfl) (by kernel_rfl) (by kernel_rfl) (by kernel_rfl) (fun _ _ _ h => h) (.inl ⟨by kernel_rfl, fun wy hy => by (go_simp; done)⟩) hHeld ?_
     try simp only [Act.put, List.setIfInBounds_toArray, List.set_cons_zero, List.set_cons_succ]
     refine AnyE.take (i := 11) (.pointer (some ⟨g, t * 3 + 2, none⟩)) rfl (by kernel_rfl) (by kernel_rfl) (by kernel_rfl) (by kernel_rfl) (fun _ _ _ h => h) (.inl ⟨by kernel_rfl, fun wy hy => by (go_simp; done)⟩) hHeld ?_
     try simp only [Act.put, List.setIfInBounds_toArray, List.set_cons_zero, List.set_cons_succ]
     refine AnyE.take (i := 12) (.int .i64 (xs : Int)) rfl (by kernel_rfl) (by kernel_rfl) (by kernel_rfl) (by kernel_rfl) (fun _ _ _ h => h) (.inl ⟨by kernel_rfl, fun wy hy => by (have q0 := (hy.cell (p := ⟨g, t * 3 + 2, none⟩) lg0).trans CS0.out; go_simp; done)⟩) hHeld ?_
     try simp only [Act.put, List.setIfInBounds_toArray, List.set_cons_zero, List.set_cons_succ]
     refine AnyE.take (i := 13) (.int .i64 0) rfl (by kernel_rfl) (by kernel_rfl) (by kernel_rfl) (by kernel_rfl) (fun _ _ _ h => h) (.inl ⟨by kernel_rfl, fun wy hy => by (go_simp; done)⟩) hHeld ?_
     try simp only [Act.put, List.setIfInBounds_toArray, List.set_cons_zero, List.set_cons_succ]
     refine AnyE.take (i := 14) (.int .i64 (Y : Int)) rfl (by kernel_rfl) (by kernel_rfl) (by kernel_rfl) (by kernel_rfl) (fun _ _ _ h => h) (.inl ⟨by kernel_rfl, fun wy hy => by (have q0 := HYE.out; have q1 := HYE2.out; go_simp; done)⟩) hHeld ?_
     try simp only [Act.put, List.setIfInBounds_toArray, List.set_cons_zero, List.set_cons_succ]
     refine AnyE.one (i := 15) rfl (by kernel_rfl) (by kernel_rfl) (fun KK hK => ?_)
     go_simp
     refine hK.out _ _ ⟨fun _ => hHeld, ?_⟩
     clear hK
     try simp only [Act.put, List.setIfInBounds_toArray, List.set_cons_zero, List.set_cons_succ]
     refine AnyE.one (i := 16) rfl (by kernel_rfl) (by kernel_rfl) (fun KK hK => ?_)
     go_simp
     refine hK.out _ _ ⟨fun _ => hHeld, ?_⟩
     clear hK
     try simp only [Act.put, List.setIfInBounds_toArray, List.set_cons_zero, List.set_cons_succ]
     refine AnyE.one (i := 17) rfl (by kernel_rfl) (by kernel_rfl) (fun KK hK => ?_)
     have z2 : Z0.frozen? ⟨g, t * 3 + 2, none⟩ = false := (HB.out.frozen (p := ⟨g, t * 3 + 2, none⟩) lg0).trans (row_fz HM0.out.row rfl _)
     have q2 : Z0.cell? ⟨g, t * 3 + 2, none⟩ = some (.int .i64 (xs : Int)) := (HB.out.cell (p := ⟨g, t * 3 + 2, none⟩) lg0).trans CS0.out
     go_simp
     refine hK.out _ _ ⟨fun h => (by cases h), ?_⟩
     clear hK
     try simp only [Act.put, List.setIfInBounds_toArray, List.set_cons_zero, List.set_cons_succ]
     refine AnyE.done (by kernel_rfl) (NoPanic.normal ?_) _
     have h5 := (HM0.out.below HB.out).setSyn HX.out Y
     have g5 := HG0.out.trans ((Go4.of_below (O := O2) HB.out).trans (Go4.of_set (a := ⟨g, t * 3 + 2, none⟩) h5.2 (.int .i64 (Y : Int))))
     have q1 : (Z0.setCell ⟨g, t * 3 + 2, none⟩ (.int .i64 (Y : Int))).cell? ⟨g, t * 3 + 1, none⟩ = some (.slice xa nx xc) := by
      have q0 := (HB.out.cell (p := ⟨g, t * 3 + 1, none⟩) lg0).trans CX0.out
      simp [go_sem, q0]
     have q3 : (Z0.setCell ⟨g, t * 3 + 2, none⟩ (.int .i64 (Y : Int))).cell? ⟨g, t * 3 + 2, none⟩ = some (.int .i64 (Y : Int)) := by
      simp [go_sem, q2]
     have l5 : g < (Z0.setCell ⟨g, t * 3 + 2, none⟩ (.int .i64 (Y : Int))).heap.size := by simp [World.setCell]; exact Nat.lt_of_lt_of_le lg0 HB.out.size
     have hZ5 : ∃ z, z = Z0.setCell ⟨g, t * 3 + 2, none⟩ (.int .i64 (Y : Int)) := ⟨_, rfl⟩
     obtain ⟨Z5, hZ5⟩ := hZ5
     rw [← hZ5] at h5 g5 q1 q3 l5 ⊢
     have H5 := Lib.hid (And.intro h5.1 g5)
     have CX5 := Lib.hid q1
     have CS5 := Lib.hid q3
     clear h5 g5 hZ5 hHeld z2 q2 q1 q3 HB
     go_simp
     go_step
     go_upto_region 14 with fail
     have BD : Below Z5.heap.size Z5 Z5.drew := (Below.refl _ _).drew
     refine wp_region_noPanic ?_
     refine wp_region_anyE (S := fun wx => Below Z5.heap.size Z5 wx) (E := fun j => !(decide (j = 25))) (by kernel_rfl) ?_
     have hHeld : Below Z5.heap.size Z5 Z5.drew := BD
     have HB := Lib.hid BD
     have hZ0 : ∃ z, z = Z5.drew := ⟨_, rfl⟩
     obtain ⟨Z0, hZ0⟩ := hZ0
     rw [← hZ0] at HB hHeld ⊢
     clear hZ0 BD
     refine AnyE.take (i := 0) (.pointer (some ⟨rB, 0, none⟩)) rfl (by kernel_rfl) (by kernel_rfl) (by kernel_rfl) (by kernel_rfl) (fun _ _ _ h => h) (.inl ⟨by kernel_rfl, fun wy hy => by (go_simp; done)⟩) hHeld ?_
     try simp only [Act.put, List.setIfInBounds_toArray, List.set_cons_zero, List.set_cons_succ]
     refine AnyE.take (i := 1) (.pointer (some ⟨rB, 0, none⟩)) rfl (by kernel_rfl) (by kernel_rfl) (by kernel_rfl) (by kernel_rfl) (fun _ _ _ h => h) (.inl ⟨by kernel_rfl, fun wy hy => by (go_simp; done)⟩) hHeld ?_
     try simp only [Act.put, List.setIfInBounds_toArray, List.set_cons_zero, List.set_cons_succ]
     refine AnyE.take (i := 2) (.pointer (some ⟨rB, 1, none⟩)) rfl (by kernel_rfl) (by kernel_rfl) (by kernel_rfl) (by kernel_rfl) (fun _ _ _ h => h) (.inl ⟨by kernel_rfl, fun wy hy => by (go_simp; done)⟩) hHeld ?_
     try simp only [Act.put, List.setIfInBounds_toArray, List.set_cons_zero, List.set_cons_succ]
     refine AnyE.take (i := 3) (.slice (some ⟨g, 0, none⟩) n k) rfl (by kernel_rfl) (by kernel_rfl) (by kernel_rfl) (by kernel_rfl) (fun _ _ _ h => h) (.inl ⟨by kernel_rfl, fun wy hy => by (have q0 := (H5.out.1.below hy).box.cells.2.1; go_simp; done)⟩) hHeld ?_
     try simp only [Act.put, List.setIfInBounds_toArray, List.set_cons_zero, List.set_cons_succ]
     refine AnyE.take (i := 4) (.int .i64 (t : Int)) rfl (by kernel_rfl) (by kernel_rfl) (by kernel_rfl) (by kernel_rfl) (fun _ _ _ h => h) (.inl ⟨by kernel_rfl, fun wy hy => by (go_simp; done)⟩) hHeld ?_
     try simp only [Act.put, List.setIfInBounds_toArray, List.set_cons_zero, List.set_cons_succ]
     refine AnyE.take (i := 5) (.pointer (some ⟨rB, 0, none⟩)) rfl (by kernel_rfl) (by kernel_rfl) (by kernel_rfl) (by kernel_rfl) (fun _ _ _ h => h) (.inl ⟨by kernel_rfl, fun wy hy => by (go_simp; done)⟩) hHeld ?_
     try simp only [Act.put, List.setIfInBounds_toArray, List.set_cons_zero, List.set_cons_succ]
     refine AnyE.take (i := 6) (.pointer (some ⟨rB, 0, none⟩)) rfl (by kernel_rfl) (by kernel_rfl) (by kernel_rfl) (by kernel_rfl) (fun _ _ _ h => h) (.inl ⟨by kernel_rfl, fun wy hy => by (go_simp; done)⟩) hHeld ?_
     try simp only [Act.put, List.setIfInBounds_toArray, List.set_cons_zero, List.set_cons_succ]
     refine AnyE.take (i := 7) (.pointer (some ⟨rB, 1, none⟩)) rfl (by kernel_rfl) (by kernel_rfl) (by kernel_rfl) (by kernel_rfl) (fun _ _ _ h => h) (.inl ⟨by kernel_rfl, fun wy hy => by (go_simp; done)⟩) hHeld ?_
     try simp only [Act.put, List.setIfInBounds_toArray, List.set_cons_zero, List.set_cons_succ]
     refine AnyE.take (i := 8) (.slice (some ⟨g, 0, none⟩) n k) rfl (by kernel_rfl) (by kernel_rfl) (by kernel_rfl) (by kernel_rfl) (fun _ _ _ h => h) (.inl ⟨by kernel_rfl, fun wy hy => by (have q0 := (H5.out.1.below hy).box.cells.2.1; go_simp; done)⟩) hHeld ?_
     try simp only [Act.put, List.setIfInBounds_toArray, List.set_cons_zero, List.set_cons_succ]
     refine AnyE.take (i := 9) (.int .i64 (t : Int)) rfl (by kernel_rfl) (by kernel_rfl) (by kernel_rfl) (by kernel_rfl) (fun _ _ _ h => h) (.inl ⟨by kernel_rfl, fun wy hy => by (go_simp; done)⟩) hHeld ?_
     try simp only [Act.put, List.setIfInBounds_toArray, List.set_cons_zero, List.set_cons_succ]
     refine AnyE.take (i := 10) (.pointer (some ⟨g, t * 3, none⟩)) rfl (by kernel_rfl) (by kernel_rfl) (by kernel_rfl) (by kernel_rfl) (fun _ _ _ h => h) (.inl ⟨by kernel_rfl, fun wy hy => by (go_simp; done)⟩) hHeld ?_
     try simp only [Act.put, List.setIfInBounds_toArray, List.set_cons_zero, List.set_cons_succ]
     refine AnyE.take (i := 11) (.pointer (some ⟨g, t * 3 + 1, none⟩)) rfl (by kernel_rfl) (by kernel_rfl) (by kernel_rfl) (by kernel_rfl) (fun _ _ _ h => h) (.inl ⟨by kernel_rfl, fun wy hy => by (go_simp; done)⟩) hHeld ?_
     try simp only [Act.put, List.setIfInBounds_toArray, List.set_cons_zero, List.set_cons_succ]
     refine AnyE.take (i := 12) (.slice xa nx xc) rfl (by kernel_rfl) (by kernel_rfl) (by kernel_rfl) (by kernel_rfl) (fun _ _ _ h => h) (.inl ⟨by kernel_rfl, fun wy hy => by (have q0 := (hy.cell (p := ⟨g, t * 3 + 1, none⟩) l5).trans CX5.out; go_simp; done)⟩) hHeld ?_
     try simp only [Act.put, List.setIfInBounds_toArray, List.set_cons_zero, List.set_cons_succ]
     refine AnyE.take (i := 13) (.pointer (some ⟨rB, 0, none⟩)) rfl (by kernel_rfl) (by kernel_rfl) (by kernel_rfl) (by kernel_rfl) (fun _ _ _ h => h) (.inl ⟨by kernel_rfl, fun wy hy => by (go_simp; done)⟩) hHeld ?_
     try simp only [Act.put, List.setIfInBounds_toArray, List.set_cons_zero, List.set_cons_succ]
     refine AnyE.take (i := 14) (.pointer (some ⟨rB, 0, none⟩)) rfl (by kernel_rfl) (by kernel_rfl) (by kernel_rfl) (by kernel_rfl) (fun _ _ _ h => h) (.inl ⟨by kernel_rfl, fun wy hy => by (go_simp; done)⟩) hHeld ?_
     try simp only [Act.put, List.setIfInBounds_toArray, List.set_cons_zero, List.set_cons_succ]
     refine AnyE.take (i := 15) (.pointer (some ⟨rB, 1, none⟩)) rfl (by kernel_rfl) (by kernel_rfl) (by kernel_rfl) (by kernel_rfl) (fun _ _ _ h => h) (.inl ⟨by kernel_rfl, fun wy hy => by (go_simp; done)⟩) hHeld ?_
     try simp only [Act.put, List.setIfInBounds_toArray, List.set_cons_zero, List.set_cons_succ]
     refine AnyE.take (i := 16) (.slice (some ⟨g, 0, none⟩) n k) rfl (by kernel_rfl) (by kernel_rfl) (by kernel_rfl) (by kernel_rfl) (fun _ _ _ h => h) (.inl ⟨by kernel_rfl, fun wy hy => by (have q0 := (H5.out.1.below hy).box.cells.2.1; go_simp; done)⟩) hHeld ?_
     try simp only [Act.put, List.setIfInBounds_toArray, List.set_cons_zero, List.set_cons_succ]
     refine AnyE.take (i := 17) (.int .i64 (t : Int)) rfl (by kernel_rfl) (by kernel_rfl) (by kernel_rfl) (by kernel_rfl) (fun _ _ _ h => h) (.inl ⟨by kernel_rfl, fun wy hy => by (go_simp; done)⟩) hHeld ?_
     try simp only [Act.put, List.setIfInBounds_toArray, List.set_cons_zero, List.set_cons_succ]
     refine AnyE.take (i := 18) (.pointer (some ⟨g, t * 3, none⟩)) rfl (by kernel_rfl) (by kernel_rfl) (by kernel_rfl) (by kernel_rfl) (fun _ _ _ h => h) (.inl ⟨by kernel_rfl, fun wy hy => by (go_simp; done)⟩) hHeld ?_
     try simp only [Act.put, List.setIfInBounds_toArray, List.set_cons_zero, List.set_cons_succ]
     refine AnyE.take (i := 19) (.pointer (some ⟨g, t * 3 + 2, none⟩)) rfl (by kernel_rfl) (by kernel_rfl) (by kernel_rfl) (by kernel_rfl) (fun _ _ _ h => h) (.inl ⟨by kernel_rfl, fun wy hy => by (go_simp; done)⟩) hHeld ?_
     try simp only [Act.put, List.setIfInBounds_toArray, List.set_cons_zero, List.set_cons_succ]
     refine AnyE.take (i := 20) (.int .i64 (Y : Int)) rfl (by kernel_rfl) (by kernel_rfl) (by kernel_rfl) (by kernel_rfl) (fun _ _ _ h => h) (.inl ⟨by kernel_rfl, fun wy hy => by (have q0 := (hy.cell (p := ⟨g, t * 3 + 2, none⟩) l5).trans CS5.out; go_simp; done)⟩) hHeld ?_
     try simp only [Act.put, List.setIfInBounds_toArray, List.set_cons_zero, List.set_cons_succ]
     refine AnyE.take (i := 21) (.slice xa Y xc) rfl (by kernel_rfl) (by kernel_rfl) (by kernel_rfl) (by kernel_rfl) (fun _ _ _ h => h) (.inl ⟨by kernel_rfl, fun wy hy => by (have q0 := HYB.out.1; have q1 := HYB.out.2; have q2 : (0 : Int) ≤ (Y : Int) := (by omega); have q3 : (Y : Int) ≤ (xc : Int) := (by omega); go_simp; done)⟩) hHeld ?_
     try simp only [Act.put, List.setIfInBounds_toArray, List.set_cons_zero, List.set_cons_succ]
     refine AnyE.one (i := 22) rfl (by kernel_rfl) (by kernel_rfl) (fun KK hK => ?_)
     go_simp
     go_at_call 35
     have hx5 : (l2.set t ((x.1.1, x.1.2.1, Y), x.2))[t]? = some ((x.1.1, x.1.2.1, Y), x.2) := List.getElem?_set_self (List.getElem?_eq_some_iff.1 HX.out).1
     have hdz := ((H5.out.1.below HB.out).dat _ (List.mem_of_getElem? hx5))
     simp only at hdz
     rw [HXV.out.1] at hdz
     have hrd := hdz.rd (by have := HXL.out; have := HXV.out.2; omega)
     refine (rCopied_any (hrd.upto4 Y HYB.out.1) (by rw [List.length_take]; have := HXL.out; have := HXV.out.2; have := HYB.out.1; omega)).mono ?_
     rintro e9 Z6 ⟨ca, cc, rfl, hca, b6⟩
     have hlY : (x.1.2.1.take Y).length = Y := by rw [List.length_take]; have := HXV.out.2; have := HYB.out.1; omega
     have ho := OwnO.of_row hca (fun z hz => hdz.bys z (List.mem_of_mem_take hz))
     rw [hlY] at ho ⊢
     have HOC := Lib.hid ho
     have HX5 := Lib.hid hx5
     have hHeld0 := hHeld
     have hHeld : Below Z5.heap.size Z5 Z6 := hHeld0.trans (b6.mono hHeld0.size)
     have HB6 := Lib.hid b6
     clear hdz hca ho hHeld0 b6 hrd hlY hx5
     go_wp2_with fail
     refine hK.out _ _ ⟨fun _ => hHeld, ?_⟩
     clear hK
     try simp only [Act.put, List.setIfInBounds_toArray, List.set_cons_zero, List.set_cons_succ]
     refine AnyE.one (i := 23) rfl (by kernel_rfl) (by kernel_rfl) (fun KK hK => ?_)
     go_simp
     refine hK.out _ _ ⟨fun _ => hHeld, ?_⟩
     clear hK
     try simp only [Act.put, List.setIfInBounds_toArray, List.set_cons_zero, List.set_cons_succ]
     refine AnyE.one (i := 24) rfl (by kernel_rfl) (by kernel_rfl) (fun KK hK => ?_)
     go_simp
     refine hK.out _ _ ⟨fun _ => hHeld, ?_⟩
     clear hK
     try simp only [Act.put, List.setIfInBounds_toArray, List.set_cons_zero, List.set_cons_succ]
     refine AnyE.one (i := 25) rfl (by kernel_rfl) (by kernel_rfl) (fun KK hK => ?_)
     have hM6 := H5.out.1.below HB.out
     have gr6 : Z0.grownBy Z6 x.2.ownBlock := ⟨HB6.out.os, HB6.out.tape, HB6.out.output, HB6.out.size, fun j hj _ => HB6.out.block j hj⟩
     have hsd := hM6.setDat (i := t) HX5.out gr6 (HOC.out.kept (fun q hq => ⟨rfl, .inr (HOC.out.blk q hq)⟩)) (fun q hq => .inr (HOC.out.blk q hq).1) HB6.out.size
     have z6 : Z6.frozen? ⟨g, t * 3 + 1, none⟩ = false := (hHeld.frozen (p := ⟨g, t * 3 + 1, none⟩) l5).trans (row_fz H5.out.1.row rfl _)
     have q6 : Z6.cell? ⟨g, t * 3 + 1, none⟩ = some (.slice xa nx xc) := (hHeld.cell (p := ⟨g, t * 3 + 1, none⟩) l5).trans CX5.out
     go_simp
     refine hK.out _ _ ⟨fun h => (by cases h), ?_⟩
     clear hK
     try simp only [Act.put, List.setIfInBounds_toArray, List.set_cons_zero, List.set_cons_succ]
     refine AnyE.done (by kernel_rfl) (NoPanic.normal ?_) _
     have hgo6 := H5.out.2.trans ((Go4.of_below (O := O2) HB.out).trans hsd.2.2)
     have H7 := Lib.hid (And.intro hsd.1 hgo6)
     have hW7 : ∃ z, z = Z6.setCell ⟨g, t * 3 + 1, none⟩ (.slice ca Y cc) := ⟨_, rfl⟩
     obtain ⟨W7, hW7⟩ := hW7
     rw [← hW7] at H7 ⊢
     clear hM6 gr6 hsd z6 q6 hHeld hgo6 hW7
     go_simp
     go_step
     go_wp2
     go_roundw
     case rel => exact ⟨t + 1, kk + 1, _, _, by omega, by have := HKT.out; omega, by go_num, by go_num, H7.out.1, H7.out.2, by simp only [List.length_set]; exact HLN.out, crash_step HFS.out HX.out (by rw [← HXV.out.2]; exact HNE.out) HYK.out⟩
     case measure => simp [intOf]; omega
   ·have k1 : ¬ (kk : Int) < (nc : Int) := by omega
    have hgd : cuts.getD kk 0 = 0 := by
     rw [List.getD_eq_getElem?_getD, List.getElem?_eq_none (by rw [← HC.out.2]; omega)]; rfl
    have HGD := Lib.hid hgd
    clear hgd
    have hY : ∃ Y : Nat, Y = xs := ⟨_, rfl⟩
    obtain ⟨Y, hY⟩ := hY
    have HYE : Hid (IntKind.i64.wrap (xs : Int) = (Y : Int)) := by
     unfold Hid
     rw [IntWalk.i64_in _ ⟨by omega, by omega⟩]
     omega
    have HYE2 := HYE
    have hYB : Y ≤ nx ∧ nx ≤ xc := ⟨by omega, HXC.out⟩
    have HYB := Lib.hid hYB
    have HYK : Hid (crash1 cuts kk x.1.2 = (x.1.2.1.take Y, Y)) := by
     unfold crash1 Hid
     rw [if_neg (by have := HNE.out; have := HXV.out.2; have := HXS.out; omega)]
     have : keepN x.1.2.2 x.1.2.1.length (cuts.getD kk 0) = Y := by
      unfold keepN
      rw [← HXV.out.2, ← HXS.out]
      rw [HGD.out]
      omega
     rw [this]
    clear hY hYB
    go_upto_region 13 with fail
    have BD : Below Y0.heap.size Y0 Y0.drew := (Below.refl _ _).drew
    refine wp_region_noPanic ?_
    refine wp_region_anyE (S := fun wx => Below Y0.heap.size Y0 wx) (E := fun j => !(decide (j = 17))) (by kernel_rfl) ?_
    have hHeld : Below Y0.heap.size Y0 Y0.drew := BD
    have HB := Lib.hid BD
    have hZ0 : ∃ z, z = Y0.drew := ⟨_, rfl⟩
    obtain ⟨Z0, hZ0⟩ := hZ0
    rw [← hZ0] at HB hHeld ⊢
    clear hZ0 BD
    refine AnyE.take (i := 0) (.pointer (some ⟨rB, 0, none⟩)) rfl (by kernel_rfl) (by kernel_rfl) (by kernel_rfl) (by kernel_rfl) (fun _ _ _ h => h) (.inl ⟨by kernel_rfl, fun wy hy => by (go_simp; done)⟩) hHeld ?_
    try simp only [Act.put, List.setIfInBounds_toArray, List.set_cons_zero, List.set_cons_succ]
    refine AnyE.take (i := 1) (.pointer (some ⟨rB, 0, none⟩)) rfl (by kernel_rfl) (by kernel_rfl) (by kernel_rfl) (by kernel_rfl) (fun _ _ _ h => h) (.inl ⟨by kernel_rfl, fun wy hy => by (go_simp; done)⟩) hHeld ?_
    try simp only [Act.put, List.setIfInBounds_toArray, List.set_cons_zero, List.set_cons_succ]
    refine AnyE.take (i := 2) (.pointer (some ⟨rB, 1, none⟩)) rfl (by kernel_rfl) (by kernel_rfl) (by kernel_rfl) (by kernel_rfl) (fun _ _ _ h => h) (.inl ⟨by kernel_rfl, fun wy hy => by (go_simp; done)⟩) hHeld ?_
    try simp only [Act.put, List.setIfInBounds_toArray, List.set_cons_zero, List.set_cons_succ]
    refine AnyE.take (i := 3) (.slice (some ⟨g, 0, none⟩) n k) rfl (by kernel_rfl) (by kernel_rfl) (by kernel_rfl) (by kernel_rfl) (fun _ _ _ h => h) (.inl ⟨by kernel_rfl, fun wy hy => by (have q0 := (HM0.out.below hy).box.cells.2.1; go_simp; done)⟩) hHeld ?_
    try simp only [Act.put, List.setIfInBounds_toArray, List.set_cons_zero, List.set_cons_succ]
    refine AnyE.take (i := 4) (.int .i64 (t : Int)) rfl (by kernel_rfl) (by kernel_rfl) (by kernel_rfl) (by kernel_rfl) (fun _ _ _ h => h) (.inl ⟨by kernel_rfl, fun wy hy => by (go_simp; done)⟩) hHeld ?_
    try simp only [Act.put, List.setIfInBounds_toArray, List.set_cons_zero, List.set_cons_succ]
    refine AnyE.take (i := 5) (.pointer (some ⟨rB, 0, none⟩)) rfl (by kernel_rfl) (by kernel_rfl) (by kernel_rfl) (by kernel_rfl) (fun _ _ _ h => h) (.inl ⟨by kernel_rfl, fun wy hy => by (go_simp; done)⟩) hHeld ?_
    try simp only [Act.put, List.setIfInBounds_toArray, List.set_cons_zero, List.set_cons_succ]
    refine AnyE.take (i := 6) (.pointer (some ⟨rB, 0, none⟩)) rfl (by kernel_rfl) (by kernel_rfl) (by kernel_rfl) (by kernel_rfl) (fun _ _ _ h => h) (.inl ⟨by kernel_rfl, fun wy hy => by (go_simp; done)⟩) hHeld ?_
    try simp only [Act.put, List.setIfInBounds_toArray, List.set_cons_zero, List.set_cons_succ]
    refine AnyE.take (i := 7) (.pointer (some ⟨rB, 1, none⟩)) rfl (by kernel_rfl) (by kernel_rfl) (by kernel_rfl) (by kernel_rfl) (fun _ _ _ h => h) (.inl ⟨by kernel_rfl, fun wy hy => by (go_simp; done)⟩) hHeld ?_
    try simp only [Act.put, List.setIfInBounds_toArray, List.set_cons_zero, List.set_cons_succ]
    refine AnyE.take (i := 8) (.slice (some ⟨g, 0, none⟩) n k) rfl (by kernel_rfl) (by kernel_rfl) (by kernel_rfl) (by kernel_rfl) (fun _ _ _ h => h) (.inl ⟨by kernel_rfl, fun wy hy => by (have q0 := (HM0.out.below hy).box.cells.2.1; go_simp; done)⟩) hHeld ?_
    try simp only [Act.put, List.setIfInBounds_toArray, List.set_cons_zero, List.set_cons_succ]
    refine AnyE.take (i := 9) (.int .i64 (t : Int)) rfl (by kernel_rfl) (by kernel_rfl) (by kernel_rfl) (by kernel_rfl) (fun _ _ _ h => h) (.inl ⟨by kernel_rfl, fun wy hy => by (go_simp; done)⟩) hHeld ?_
    try simp only [Act.put, List.setIfInBounds_toArray, List.set_cons_zero, List.set_cons_succ]
    refine AnyE.take (i := 10) (.pointer (some ⟨g, t * 3, none⟩)) rfl (by kernel_rfl) (by kernel_rfl) (by kernel_rfl) (by kernel_rfl) (fun _ _ _ h => h) (.inl ⟨by kernel_rfl, fun wy hy => by (go_simp; done)⟩) hHeld ?_
    try simp only [Act.put, List.setIfInBounds_toArray, List.set_cons_zero, List.set_cons_succ]
    refine AnyE.take (i := 11) (.pointer (some ⟨g, t * 3 + 2, none⟩)) rfl (by kernel_rfl) (by kernel_rfl) (by kernel_rfl) (by kernel_rfl) (fun _ _ _ h => h) (.inl ⟨by kernel_rfl, fun wy hy => by (go_simp; done)⟩) hHeld ?_
    try simp only [Act.put, List.setIfInBounds_toArray, List.set_cons_zero, List.set_cons_succ]
    refine AnyE.take (i := 12) (.int .i64 (xs : Int)) rfl (by kernel_rfl) (by kernel_rfl) (by kernel_rfl) (by kernel_rfl) (fun _ _ _ h => h) (.inl ⟨by kernel_rfl, fun wy hy => by (have q0 := (hy.cell (p := ⟨g, t * 3 + 2, none⟩) lg0).trans CS0.out; go_simp; done)⟩) hHeld ?_
    try simp only [Act.put, List.setIfInBounds_toArray, List.set_cons_zero, List.set_cons_succ]
    refine AnyE.take (i := 13) (.int .i64 0) rfl (by kernel_rfl) (by kernel_rfl) (by kernel_rfl) (by kernel_rfl) (fun _ _ _ h => h) (.inl ⟨by kernel_rfl, fun wy hy => by (go_simp; done)⟩) hHeld ?_
    try simp only [Act.put, List.setIfInBounds_toArray, List.set_cons_zero, List.set_cons_succ]
    refine AnyE.take (i := 14) (.int .i64 (Y : Int)) rfl (by kernel_rfl) (by kernel_rfl) (by kernel_rfl) (by kernel_rfl) (fun _ _ _ h => h) (.inl ⟨by kernel_rfl, fun wy hy => by (have q0 := HYE.out; have q1 := HYE2.out; go_simp; done)⟩) hHeld ?_
    try simp only [Act.put, List.setIfInBounds_toArray, List.set_cons_zero, List.set_cons_succ]
    refine AnyE.one (i := 15) rfl (by kernel_rfl) (by kernel_rfl) (fun KK hK => ?_)
    go_simp
    refine hK.out _ _ ⟨fun _ => hHeld, ?_⟩
    clear hK
    try simp only [Act.put, List.setIfInBounds_toArray, List.set_cons_zero, List.set_cons_succ]
    refine AnyE.one (i := 16) rfl (by kernel_rfl) (by kernel_rfl) (fun KK hK => ?_)
    go_simp
    refine hK.out _ _ ⟨fun _ => hHeld, ?_⟩
    clear hK
    try simp only [Act.put, List.setIfInBounds_toArray, List.set_cons_zero, List.set_cons_succ]
    refine AnyE.one (i := 17) rfl (by kernel_rfl) (by kernel_rfl) (fun KK hK => ?_)
    have z2 : Z0.frozen? ⟨g, t * 3 + 2, none⟩ = false := (HB.out.frozen (p := ⟨g, t * 3 + 2, none⟩) lg0).trans (row_fz HM0.out.row rfl _)
    have q2 : Z0.cell? ⟨g, t * 3 + 2, none⟩ = some (.int .i64 (xs : Int)) := (HB.out.cell (p := ⟨g, t * 3 + 2, none⟩) lg0).trans CS0.out
    go_simp
    refine hK.out _ _ ⟨fun h => (by cases h), ?_⟩
    clear hK
    try simp only [Act.put, List.setIfInBounds_toArray, List.set_cons_zero, List.set_cons_succ]
    refine AnyE.done (by kernel_rfl) (NoPanic.normal ?_) _
    have h5 := (HM0.out.below HB.out).setSyn HX.out Y
    have g5 := HG0.out.trans ((Go4.of_below (O := O2) HB.out).trans (Go4.of_set (a := ⟨g, t * 3 + 2, none⟩) h5.2 (.int .i64 (Y : Int))))
    have q1 : (Z0.setCell ⟨g, t * 3 + 2, none⟩ (.int .i64 (Y : Int))).cell? ⟨g, t * 3 + 1, none⟩ = some (.slice xa nx xc) := by
     have q0 := (HB.out.cell (p := ⟨g, t * 3 + 1, none⟩) lg0).trans CX0.out
     simp [go_sem, q0]
    have q3 : (Z0.setCell ⟨g, t * 3 + 2, none⟩ (.int .i64 (Y : Int))).cell? ⟨g, t * 3 + 2, none⟩ = some (.int .i64 (Y : Int)) := by
     simp [go_sem, q2]
    have l5 : g < (Z0.setCell ⟨g, t * 3 + 2, none⟩ (.int .i64 (Y : Int))).heap.size := by simp [World.setCell]; exact Nat.lt_of_lt_of_le lg0 HB.out.size
    have hZ5 : ∃ z, z = Z0.setCell ⟨g, t * 3 + 2, none⟩ (.int .i64 (Y : Int)) := ⟨_, rfl⟩
    obtain ⟨Z5, hZ5⟩ := hZ5
    rw [← hZ5] at h5 g5 q1 q3 l5 ⊢
    have H5 := Lib.hid (And.intro h5.1 g5)
    have CX5 := Lib.hid q1
    have CS5 := Lib.hid q3
    clear h5 g5 hZ5 hHeld z2 q2 q1 q3 HB
    go_simp
    go_step
    go_upto_region 14 with fail
    have BD : Below Z5.heap.size Z5 Z5.drew := (Below.refl _ _).drew
    refine wp_region_noPanic ?_
    refine wp_region_anyE (S := fun wx => Below Z5.heap.size Z5 wx) (E := fun j => !(decide (j = 25))) (by kernel_rfl) ?_
    have hHeld : Below Z5.heap.size Z5 Z5.drew := BD
    have HB := Lib.hid BD
    have hZ0 : ∃ z, z = Z5.drew := ⟨_, rfl⟩
    obtain ⟨Z0, hZ0⟩ := hZ0
    rw [← hZ0] at HB hHeld ⊢
    clear hZ0 BD
    refine AnyE.take (i := 0) (.pointer (some ⟨rB, 0, none⟩)) rfl (by kernel_rfl) (by kernel_rfl) (by kernel_rfl) (by kernel_rfl) (fun _ _ _ h => h) (.inl ⟨by kernel_rfl, fun wy hy => by (go_simp; done)⟩) hHeld ?_
    try simp only [Act.put, List.setIfInBounds_toArray, List.set_cons_zero, List.set_cons_succ]
    refine AnyE.take (i := 1) (.pointer (some ⟨rB, 0, none⟩)) rfl (by kernel_rfl) (by kernel_rfl) (by kernel_rfl) (by kernel_rfl) (fun _ _ _ h => h) (.inl ⟨by kernel_rfl, fun wy hy => by (go_simp; done)⟩) hHeld ?_
    try simp only [Act.put, List.setIfInBounds_toArray, List.set_cons_zero, List.set_cons_succ]
    refine AnyE.take (i := 2) (.pointer (some ⟨rB, 1, none⟩)) rfl (by kernel_rfl) (by kernel_rfl) (by kernel_rfl) (by kernel_rfl) (fun _ _ _ h => h) (.inl ⟨by kernel_rfl, fun wy hy => by (go_simp; done)⟩) hHeld ?_
    try simp only [Act.put, List.setIfInBounds_toArray, List.set_cons_zero, List.set_cons_succ]
    refine AnyE.take (i := 3) (.slice (some ⟨g, 0, none⟩) n k) rfl (by kernel_rfl) (by kernel_rfl) (by kernel_rfl) (by kernel_rfl) (fun _ _ _ h => h) (.inl ⟨by kernel_rfl, fun wy hy => by (have q0 := (H5.out.1.below hy).box.cells.2.1; go_simp; done)⟩) hHeld ?_
    try simp only [Act.put, List.setIfInBounds_toArray, List.set_cons_zero, List.set_cons_succ]
    refine AnyE.take (i := 4) (.int .i64 (t : Int)) rfl (by kernel_rfl) (by kernel_rfl) (by kernel_rfl) (by kernel_rfl) (fun _ _ _ h => h) (.inl ⟨by kernel_rfl, fun wy hy => by (go_simp; done)⟩) hHeld ?_
    try simp only [Act.put, List.setIfInBounds_toArray, List.set_cons_zero, List.set_cons_succ]
    refine AnyE.take (i := 5) (.pointer (some ⟨rB, 0, none⟩)) rfl (by kernel_rfl) (by kernel_rfl) (by kernel_rfl) (by kernel_rfl) (fun _ _ _ h => h) (.inl ⟨by kernel_rfl, fun wy hy => by (go_simp; done)⟩) hHeld ?_
    try simp only [Act.put, List.setIfInBounds_toArray, List.set_cons_zero, List.set_cons_succ]
    refine AnyE.take (i := 6) (.pointer (some ⟨rB, 0, none⟩)) rfl (by kernel_rfl) (by kernel_rfl) (by kernel_rfl) (by kernel_rfl) (fun _ _ _ h => h) (.inl ⟨by kernel_rfl, fun wy hy => by (go_simp; done)⟩) hHeld ?_
    try simp only [Act.put, List.setIfInBounds_toArray, List.set_cons_zero, List.set_cons_succ]
    refine AnyE.take (i := 7) (.pointer (some ⟨rB, 1, none⟩)) rfl (by kernel_rfl) (by kernel_rfl) (by kernel_rfl) (by kernel_rfl) (fun _ _ _ h => h) (.inl ⟨by kernel_rfl, fun wy hy => by (go_simp; done)⟩) hHeld ?_
    try simp only [Act.put, List.setIfInBounds_toArray, List.set_cons_zero, List.set_cons_succ]
    refine AnyE.take (i := 8) (.slice (some ⟨g, 0, none⟩) n k) rfl (by kernel_rfl) (by kernel_rfl) (by kernel_rfl) (by kernel_rfl) (fun _ _ _ h => h) (.inl ⟨by kernel_rfl, fun wy hy => by (have q0 := (H5.out.1.below hy).box.cells.2.1; go_simp; done)⟩) hHeld ?_
    try simp only [Act.put, List.setIfInBounds_toArray, List.set_cons_zero, List.set_cons_succ]
    refine AnyE.take (i := 9) (.int .i64 (t : Int)) rfl (by kernel_rfl) (by kernel_rfl) (by kernel_rfl) (by kernel_rfl) (fun _ _ _ h => h) (.inl ⟨by kernel_rfl, fun wy hy => by (go_simp; done)⟩) hHeld ?_
    try simp only [Act.put, List.setIfInBounds_toArray, List.set_cons_zero, List.set_cons_succ]
    refine AnyE.take (i := 10) (.pointer (some ⟨g, t * 3, none⟩)) rfl (by kernel_rfl) (by kernel_rfl) (by kernel_rfl) (by kernel_rfl) (fun _ _ _ h => h) (.inl ⟨by kernel_rfl, fun wy hy => by (go_simp; done)⟩) hHeld ?_
    try simp only [Act.put, List.setIfInBounds_toArray, List.set_cons_zero, List.set_cons_succ]
    refine AnyE.take (i := 11) (.pointer (some ⟨g, t * 3 + 1, none⟩)) rfl (by kernel_rfl) (by kernel_rfl) (by kernel_rfl) (by kernel_rfl) (fun _ _ _ h => h) (.inl ⟨by kernel_rfl, fun wy hy => by (go_simp; done)⟩) hHeld ?_
    try simp only [Act.put, List.setIfInBounds_toArray, List.set_cons_zero, List.set_cons_succ]
    refine AnyE.take (i := 12) (.slice xa nx xc) rfl (by kernel_rfl) (by kernel_rfl) (by kernel_rfl) (by kernel_rfl) (fun _ _ _ h => h) (.inl ⟨by kernel_rfl, fun wy hy => by (have q0 := (hy.cell (p := ⟨g, t * 3 + 1, none⟩) l5).trans CX5.out; go_simp; done)⟩) hHeld ?_
    try simp only [Act.put, List.setIfInBounds_toArray, List.set_cons_zero, List.set_cons_succ]
    refine AnyE.take (i := 13) (.pointer (some ⟨rB, 0, none⟩)) rfl (by kernel_rfl) (by kernel_rfl) (by kernel_rfl) (by kernel_rfl) (fun _ _ _ h => h) (.inl ⟨by kernel_rfl, fun wy hy => by (go_simp; done)⟩) hHeld ?_
    try simp only [Act.put, List.setIfInBounds_toArray, List.set_cons_zero, List.set_cons_succ]
    refine AnyE.take (i := 14) (.pointer (some ⟨rB, 0, none⟩)) rfl (by kernel_rfl) (by kernel_rfl) (by kernel_rfl) (by kernel_rfl) (fun _ _ _ h => h) (.inl ⟨by kernel_rfl, fun wy hy => by (go_simp; done)⟩) hHeld ?_
    try simp only [Act.put, List.setIfInBounds_toArray, List.set_cons_zero, List.set_cons_succ]
    refine AnyE.take (i := 15) (.pointer (some ⟨rB, 1, none⟩)) rfl (by kernel_rfl) (by kernel_rfl) (by kernel_rfl) (by kernel_rfl) (fun _ _ _ h => h) (.inl ⟨by kernel_rfl, fun wy hy => by (go_simp; done)⟩) hHeld ?_
    try simp only [Act.put, List.setIfInBounds_toArray, List.set_cons_zero, List.set_cons_succ]
    refine AnyE.take (i := 16) (.slice (some ⟨g, 0, none⟩) n k) rfl (by kernel_rfl) (by kernel_rfl) (by kernel_rfl) (by kernel_rfl) (fun _ _ _ h => h) (.inl ⟨by kernel_rfl, fun wy hy => by (have q0 := (H5.out.1.below hy).box.cells.2.1; go_simp; done)⟩) hHeld ?_
    try simp only [Act.put, List.setIfInBounds_toArray, List.set_cons_zero, List.set_cons_succ]
    refine AnyE.take (i := 17) (.int .i64 (t : Int)) rfl (by kernel_rfl) (by kernel_rfl) (by kernel_rfl) (by kernel_rfl) (fun _ _ _ h => h) (.inl ⟨by kernel_rfl, fun wy hy => by (go_simp; done)⟩) hHeld ?_
    try simp only [Act.put, List.setIfInBounds_toArray, List.set_cons_zero, List.set_cons_succ]
    refine AnyE.take (i := 18) (.pointer (some ⟨g, t * 3, none⟩)) rfl (by kernel_rfl) (by kernel_rfl) (by kernel_rfl) (by kernel_rfl) (fun _ _ _ h => h) (.inl ⟨by kernel_rfl, fun wy hy => by (go_simp; done)⟩) hHeld ?_
    try simp only [Act.put, List.setIfInBounds_toArray, List.set_cons_zero, List.set_cons_succ]
    refine AnyE.take (i := 19) (.pointer (some ⟨g, t * 3 + 2, none⟩)) rfl (by kernel_rfl) (by kernel_rfl) (by kernel_rfl) (by kernel_rfl) (fun _ _ _ h => h) (.inl ⟨by kernel_rfl, fun wy hy => by (go_simp; done)⟩) hHeld ?_
    try simp only [Act.put, List.setIfInBounds_toArray, List.set_cons_zero, List.set_cons_succ]
    refine AnyE.take (i := 20) (.int .i64 (Y : Int)) rfl (by kernel_rfl) (by kernel_rfl) (by kernel_rfl) (by kernel_rfl) (fun _ _ _ h => h) (.inl ⟨by kernel_rfl, fun wy hy => by (have q0 := (hy.cell (p := ⟨g, t * 3 + 2, none⟩) l5).trans CS5.out; go_simp; done)⟩) hHeld ?_
    try simp only [Act.put, List.setIfInBounds_toArray, List.set_cons_zero, List.set_cons_succ]
    refine AnyE.take (i := 21) (.slice xa Y xc) rfl (by kernel_rfl) (by kernel_rfl) (by kernel_rfl) (by kernel_rfl) (fun _ _ _ h => h) (.inl ⟨by kernel_rfl, fun wy hy => by (have q0 := HYB.out.1; have q1 := HYB.out.2; have q2 : (0 : Int) ≤ (Y : Int) := (by omega); have q3 : (Y : Int) ≤ (xc : Int) := (by omega); go_simp; done)⟩) hHeld ?_
    try simp only [Act.put, List.setIfInBounds_toArray, List.set_cons_zero, List.set_cons_succ]
    refine AnyE.one (i := 22) rfl (by kernel_rfl) (by kernel_rfl) (fun KK hK => ?_)
    go_simp
    go_at_call 35
    have hx5 : (l2.set t ((x.1.1, x.1.2.1, Y), x.2))[t]? = some ((x.1.1, x.1.2.1, Y), x.2) := List.getElem?_set_self (List.getElem?_eq_some_iff.1 HX.out).1
    have hdz := ((H5.out.1.below HB.out).dat _ (List.mem_of_getElem? hx5))
    simp only at hdz
    rw [HXV.out.1] at hdz
    have hrd := hdz.rd (by have := HXL.out; have := HXV.out.2; omega)
    refine (rCopied_any (hrd.upto4 Y HYB.out.1) (by rw [List.length_take]; have := HXL.out; have := HXV.out.2; have := HYB.out.1; omega)).mono ?_
    rintro e9 Z6 ⟨ca, cc, rfl, hca, b6⟩
    have hlY : (x.1.2.1.take Y).length = Y := by rw [List.length_take]; have := HXV.out.2; have := HYB.out.1; omega
    have ho := OwnO.of_row hca (fun z hz => hdz.bys z (List.mem_of_mem_take hz))
    rw [hlY] at ho ⊢
    have HOC := Lib.hid ho
    have HX5 := Lib.hid hx5
    have hHeld0 := hHeld
    have hHeld : Below Z5.heap.size Z5 Z6 := hHeld0.trans (b6.mono hHeld0.size)
    have HB6 := Lib.hid b6
    clear hdz hca ho hHeld0 b6 hrd hlY hx5
    go_wp2_with fail
    refine hK.out _ _ ⟨fun _ => hHeld, ?_⟩
    clear hK
    try simp only [Act.put, List.setIfInBounds_toArray, List.set_cons_zero, List.set_cons_succ]
    refine AnyE.one (i := 23) rfl (by kernel_rfl) (by kernel_rfl) (fun KK hK => ?_)
    go_simp
    refine hK.out _ _ ⟨fun _ => hHeld, ?_⟩
    clear hK
    try simp only [Act.put, List.setIfInBounds_toArray, List.set_cons_zero, List.set_cons_succ]
    refine AnyE.one (i := 24) rfl (by kernel_rfl) (by kernel_rfl) (fun KK hK => ?_)
    go_simp
    refine hK.out _ _ ⟨fun _ => hHeld, ?_⟩
    clear hK
    try simp only [Act.put, List.setIfInBounds_toArray, List.set_cons_zero, List.set_cons_succ]
    refine AnyE.one (i := 25) rfl (by kernel_rfl) (by kernel_rfl) (fun KK hK => ?_)
    have hM6 := H5.out.1.below HB.out
    have gr6 : Z0.grownBy Z6 x.2.ownBlock := ⟨HB6.out.os, HB6.out.tape, HB6.out.output, HB6.out.size, fun j hj _ => HB6.out.block j hj⟩
    have hsd := hM6.setDat (i := t) HX5.out gr6 (HOC.out.kept (fun q hq => ⟨rfl, .inr (HOC.out.blk q hq)⟩)) (fun q hq => .inr (HOC.out.blk q hq).1) HB6.out.size
    have z6 : Z6.frozen? ⟨g, t * 3 + 1, none⟩ = false := (hHeld.frozen (p := ⟨g, t * 3 + 1, none⟩) l5).trans (row_fz H5.out.1.row rfl _)
    have q6 : Z6.cell? ⟨g, t * 3 + 1, none⟩ = some (.slice xa nx xc) := (hHeld.cell (p := ⟨g, t * 3 + 1, none⟩) l5).trans CX5.out
    go_simp
    refine hK.out _ _ ⟨fun h => (by cases h), ?_⟩
    clear hK
    try simp only [Act.put, List.setIfInBounds_toArray, List.set_cons_zero, List.set_cons_succ]
    refine AnyE.done (by kernel_rfl) (NoPanic.normal ?_) _
    have hgo6 := H5.out.2.trans ((Go4.of_below (O := O2) HB.out).trans hsd.2.2)
    have H7 := Lib.hid (And.intro hsd.1 hgo6)
    have hW7 : ∃ z, z = Z6.setCell ⟨g, t * 3 + 1, none⟩ (.slice ca Y cc) := ⟨_, rfl⟩
    obtain ⟨W7, hW7⟩ := hW7
    rw [← hW7] at H7 ⊢
    clear hM6 gr6 hsd z6 q6 hHeld hgo6 hW7
    go_simp
    go_step
    go_wp2
    go_roundw
    case rel => exact ⟨t + 1, kk + 1, _, _, by omega, by have := HKT.out; omega, by go_num, by go_num, H7.out.1, H7.out.2, by simp only [List.length_set]; exact HLN.out, crash_step HFS.out HX.out (by rw [← HXV.out.2]; exact HNE.out) HYK.out⟩
    case measure => simp [intOf]; omega
  ·have j1 : (n : Int) ≤ (t : Int) := by omega
   have hall : r.fs.take t = r.fs := List.take_of_length_le (by rw [← HM1.out.2.2]; omega)
   have hfs := HFS.out
   rw [hall, List.drop_eq_nil_of_le (by rw [← HM1.out.2.2]; omega), List.append_nil] at hfs
   have HF := Lib.hid hfs
   have c2 := HM.out.box.cells.2.2.1
   have c3 := HM.out.box.cells.2.2.2.1
   have z2 := HM.out.box.fz 2
   have z3 := HM.out.box.fz 3
   have HO := Lib.hid HM.out.orb
   clear hfs hall hlt
   go_wp2
   go_ret
   refine ⟨by rw [HF.out.2]; rfl, O2, ⟨crashR_ok HOK.out.1 HOK.out.2, a, n, k, l2, ?_, HF.out.1⟩, HGO.out.trans ((Go4.of_set (a := ⟨rB, 2, none⟩) HO.out _).trans (Go4.of_set (a := ⟨rB, 3, none⟩) HO.out _))⟩
   exact (HM.out.setOff false).setArm 0
end Go.Proofs.Ytlkhphhmhffdjaa
