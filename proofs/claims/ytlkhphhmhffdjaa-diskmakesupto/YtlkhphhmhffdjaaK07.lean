import Derived.Test.YtlkhphhmhffdjaaK06
set_option linter.unusedSimpArgs false
set_option linter.unusedVariables false
namespace Go.Proofs.Ytlkhphhmhffdjaa
open Go.RowKit Go.MapKept Go.Sort
variable {w w' W X : World} {O O' : Nat → Prop} {dB : Nat} {d : Dk4}
structure RdI4 (w : World) (O : Nat → Prop) (a : Option Addr) (k : Nat) (js : List Int) : Prop where
 cap : js.length ≤ k ∧ k ≤ maxLen
 cel : ∀ i j, js[i]? = some j → ∃ b off, a = some ⟨b, off, none⟩ ∧ ¬ O b ∧ w.cell? ⟨b, off + i, none⟩ = some (.int .i64 j)
theorem RdI4.go {a : Option Addr} {k : Nat} {js : List Int} (h : RdI4 w O a k js) (g : Go4 w w' O O') : RdI4 w' O' a k js := by
 refine ⟨h.cap, fun i j hj => ?_⟩
 obtain ⟨b, off, e, hn, hc⟩ := h.cel i j hj
 have hl := World.block_lt_of_cell? _ _ hc
 simp only at hl
 exact ⟨b, off, e, fun z => (g.new b z).elim hn (fun q => by omega), (World.cell?_of_block (a := ⟨b, off + i, none⟩) (g.block b hl hn)).trans hc⟩
def crashF (cuts : List Int) : List (List UInt8) → Nat → List PF → Nat × List PF
 | [], t, fs => (t, fs)
 | x :: xs, t, fs =>
  let v := (atP fs (ofL x)).getD ([], 0)
  if v.2 = v.1.length then crashF cuts xs t fs
  else crashF cuts xs (t + 1) (setP fs (ofL x, v.1.take (keepN v.2 v.1.length (cuts.getD t 0)), keepN v.2 v.1.length (cuts.getD t 0)))
def crashD (d : Dk4) (cuts : List Int) : Nat × Dk4 := ((crashF cuts (lsP d.fs ⟨#[]⟩) 0 d.fs).1, ⟨(crashF cuts (lsP d.fs ⟨#[]⟩) 0 d.fs).2, d.cap, 0, false, d.c⟩)
theorem cut_dsk {mb : Nat} {fl : List FE} {cap arm : Int} {down : Bool} {c : Nat → Int} {f : FE} {v' : Value} {k : Nat} (h : DskM w O dB mb fl cap arm down c) (hf : atF fl f.nm = some f) (hb : FBox w' f.b v' k) (ho : OwnO w' (fun i => f.v.ownBlock = some i ∨ w.heap.size ≤ i) v' (f.dat.take k)) (hv : v' = f.v ∨ ∀ g, v'.ownBlock = some g → w.heap.size ≤ g) (g : Go4 w w' (fun i => i = f.b) (fun i => i = f.b)) :
  ∃ O2, DskM w' O2 dB mb (setF fl ⟨f.nm, f.b, v', f.dat.take k, k⟩) cap arm down c ∧ Go4 w w' O O2 := by
 have hm := atF_mem hf
 have hfil := h.fil f hm.1
 have hw : ∀ i, v'.ownBlock = some i → i < w'.heap.size := fun i hi => by
  obtain ⟨cur, ht⟩ := ho.typ hi
  exact (Array.getElem?_eq_some_iff.1 ht).1
 have hv2 : ∀ i, v'.ownBlock = some i → O i ∨ w.heap.size ≤ i := fun i hi => by
  rcases hv with rfl | hv
  ·exact .inl (hfil.2.1.blk i hi)
  ·exact .inr (hv i hi)
 refine ⟨fun i => O i ∨ v'.ownBlock = some i, h.inF (f := f) (f' := ⟨f.nm, f.b, v', f.dat.take k, k⟩) hf rfl hb (ho.kept (fun g hg => ⟨rfl, .inr hg⟩)) (fun i hi => .inl hi) (fun i h1 h2 _ => g.block i (h.lt i h1) h2) (fun i hi => ?_) (fun i hi => ?_), ⟨g.os, g.tape, g.output, g.size, fun i hi hn => g.block i hi (fun e => hn (e ▸ hfil.2.2)), fun i hi => hi.elim .inl (hv2 i)⟩⟩
 ·rcases hv with rfl | hv
  ·exact .inl hi
  ·exact .inr (fun z => by have := hv i hi; have := h.lt i z; omega)
 ·exact hi.elim (fun z => Nat.lt_of_lt_of_le (h.lt i z) g.size) (hw i)
theorem OwnS.ne {B n b syn : Nat} {v v2 : Value} {ss : List (List UInt8)} (h : OwnS w B v n ss) (k : FBox w b v2 syn) : ∀ g, v.ownBlock = some g → g ≠ b := by
 intro g hg e
 rcases h.2.2 with ⟨rfl, _⟩ | ⟨g2, cap, cur, rfl, _, h5, _⟩
 ·cases hg
 ·simp only [Value.ownBlock, Option.some.injEq] at hg
  unfold FBox at k
  rw [hg, e, k] at h5
  simp only [Option.some.injEq, Obj.cells.injEq] at h5
  exact absurd h5.2.1 (by decide)
theorem OwnS.go {B n b : Nat} {v : Value} {ss : List (List UInt8)} (h : OwnS w B v n ss) (g : Go4 w w' (fun i => i = b) O') (hn : ∀ g, v.ownBlock = some g → g ≠ b) : OwnS w' B v n ss := by
 refine ⟨h.1, h.2.1, ?_⟩
 rcases h.2.2 with h2 | ⟨g2, cap, cur, h3, h4, h5, h6⟩
 ·exact .inl h2
 ·exact .inr ⟨g2, cap, cur, h3, h4, by rw [g.block g2 (Array.getElem?_eq_some_iff.1 h5).1 (hn g2 (by rw [h3]; rfl))]; exact h5, h6⟩
theorem atP_set_ne {f : PF} {s : ByteArray} (hne : f.1 ≠ s) : ∀ l : List PF, (∃ v, atP l f.1 = some v) → atP (setP l f) s = atP l s
 | [], h => by obtain ⟨v, hv⟩ := h; cases hv
 | x :: xs, h => by
  by_cases e : x.1 = f.1
  ·rw [setP, if_pos e, atP, atP, if_neg hne, if_neg (fun q => hne (by rw [← e, q]))]
  ·rw [setP, if_neg e, atP, atP]
   rw [atP, if_neg e] at h
   by_cases e2 : x.1 = s
   ·rw [if_pos e2, if_pos e2]
   ·rw [if_neg e2, if_neg e2, atP_set_ne hne xs h]
theorem atP_set_some {f : PF} {s : ByteArray} : ∀ l : List PF, (∃ v, atP l f.1 = some v) → (∃ v, atP l s = some v) → ∃ v, atP (setP l f) s = some v := fun l h k => by
 by_cases e : f.1 = s
 ·subst e
  obtain ⟨v, hv⟩ := h
  have hm := setP_names (f := f) hv
  cases hq : atP (setP l f) f.1 with
  | some v => exact ⟨v, rfl⟩
  | none =>
   exfalso
   have h1 : f.1 ∈ l.map (·.1) := List.mem_map.2 ⟨_, atP_mem hv, rfl⟩
   rw [← hm] at h1
   obtain ⟨p, hp, e⟩ := List.mem_map.1 h1
   exact atP_none hq p hp e
 ·rw [atP_set_ne e l h]
  exact k
set_option maxRecDepth 100000 in
set_option maxHeartbeats 4000000 in
theorem crash_any {a : Option Addr} {nc kc : Nat} {cuts : List Int} (hD : Dsk w O dB d) (hr : RdI4 w O a kc cuts) (hnc : nc = cuts.length) :
  Calls Try.prog 63 #[.pointer (some ⟨dB, 0, none⟩), .slice a nc kc] w fun e w' => e = .returned (.int .i64 ((crashD d cuts).1 : Int)) ∧ ∃ O2, Dsk w' O2 dB (crashD d cuts).2 ∧ Go4 w w' O O2 := by
 have HD := Lib.hid hD
 have HLIST := Lib.hid (list_dsk hD ⟨#[]⟩)
 obtain ⟨L, hL⟩ : ∃ L, L = lsP d.fs ⟨#[]⟩ := ⟨_, rfl⟩
 obtain ⟨R, hR⟩ : ∃ R, R = crashF cuts L 0 d.fs := ⟨_, rfl⟩
 have hC : crashD d cuts = (R.1, ⟨R.2, d.cap, 0, false, d.c⟩) := by rw [hR, hL]; rfl
 rw [hC]
 rw [← hL] at HLIST
 have hlen : L.length ≤ 256 := by
  rw [hL]
  unfold lsP
  rw [List.length_mergeSort, List.length_map]
  refine Nat.le_trans (List.length_filter_le _ _) ?_
  rw [List.length_map]
  exact hD.1.cnt
 have hall : ∀ x ∈ L, ∃ v, atP d.fs (ofL x) = some v := fun x hx => lsP_at (by rw [← hL]; exact hx)
 have HL := Lib.hid (And.intro hlen (And.intro hall hR))
 have hncx : nc ≤ 9223372036854775807 := by have := hr.cap; unfold maxLen at this; omega
 have HR := Lib.hid hr
 have HNC := Lib.hid hnc
 clear hD hL hC hlen hall hr hnc hR
 simp only
 go_enter Try.func63, Try.ntmps63
 go_wp2_with fail
 refine HLIST.out.mono ?_
 rintro e w1 ⟨al, nl, kl, rfl, o1, b1⟩
 have HO1 := Lib.hid o1
 have HD1 := Lib.hid (And.intro (HD.out.below b1) (And.intro (Go4.of_below (O := O) b1) (HR.out.go (Go4.of_below (O := O) b1))))
 have hnl : nl ≤ 256 := by rw [o1.1]; exact HL.out.1
 clear o1 b1
 go_wp2_with fail
 go_loopw [5, 13] (fun tv i wr => ∃ (t tl : Nat) (fs : List PF) (O2 : Nat → Prop), t ≤ nl ∧ tl ≤ t ∧ i = .int .i64 (t : Int) ∧ tv = .int .i64 (tl : Int) ∧ Dsk wr O2 dB ⟨fs, d.cap, d.arm, d.down, d.c⟩ ∧ Go4 w wr O O2 ∧ RdI4 wr O2 a kc cuts ∧ OwnS wr w.heap.size (.slice al nl kl) nl L ∧ (∀ x ∈ L, ∃ v, atP fs (ofL x) = some v) ∧ R = crashF cuts (L.drop t) tl fs) (fun _ i _ => nl - (intOf i).toNat)
 case atStart => exact ⟨0, 0, d.fs, O, Nat.zero_le _, Nat.le_refl _, rfl, rfl, HD1.out.1, HD1.out.2.1, HD1.out.2.2, HO1.out, HL.out.2.1, HL.out.2.2⟩
 case round =>
  obtain ⟨t, tl, fs, O2, ht, htl, rfl, rfl, hdsk, hgo, hri, hown, hat, hRR⟩ := hrel
  have HDK := Lib.hid (And.intro hdsk (And.intro hgo (And.intro hri (And.intro hat hRR))))
  have HOWN := Lib.hid hown
  clear hdsk hgo hri hat hRR hown
  by_cases hlt : t < nl
  ·skip
   have j1 : (t : Int) < (nl : Int) := by omega
   have j2 : (0 : Int) ≤ (t : Int) := by omega
   have htL : t < L.length := by rw [← HOWN.out.1]; exact hlt
   have hx : ∃ x, L[t]? = some x := ⟨_, List.getElem?_eq_getElem htL⟩
   obtain ⟨x, hx⟩ := hx
   have hdrop : L.drop t = x :: L.drop (t + 1) := by
    rw [List.drop_eq_getElem_cons htL]
    rw [List.getElem?_eq_getElem htL] at hx
    cases hx
    rfl
   have hc := HOWN.out.rd.2.cel t (ofL x) (by rw [List.getElem?_map, hx]; rfl)
   obtain ⟨gl, hc⟩ := hc
   obtain ⟨ol, hc⟩ := hc
   have hal := hc.1
   have hcl := hc.2
   subst hal
   clear hc
   have hd5 := HDK.out.1
   unfold Dsk at hd5
   have hd6 := hd5.2
   obtain ⟨mb, hd6⟩ := hd6
   obtain ⟨fl, hd6⟩ := hd6
   have hM := hd6.1
   have hfs := hd6.2
   have hok := hd5.1
   simp only at hM hfs
   clear hd5 hd6
   have hatF : ∃ f, atF fl (ofL x) = some f ∧ atP fs (ofL x) = some (f.dat, f.syn) := by
    obtain ⟨v, hv⟩ := HDK.out.2.2.2.1 x (List.mem_of_getElem? hx)
    rw [← hfs, atF_pf] at hv ⊢
    cases h : atF fl (ofL x) with
    | none => rw [h] at hv; cases hv
    | some f => exact ⟨f, rfl, rfl⟩
   obtain ⟨f, hf⟩ := hatF
   obtain ⟨fn, fb, fv, fd, fy⟩ := f
   have hf1 := hf.1
   have hf2 := hf.2
   simp only at hf2
   have hmem := atF_mem hf1
   have hfn := hmem.2
   simp only at hfn
   subst hfn
   have hfb := hM.fil _ hmem.1
   have hform := hfb.2.1.form
   obtain ⟨af, hform⟩ := hform
   obtain ⟨kf, hform⟩ := hform
   simp only at hform
   have hnf : ∃ nf, nf = fd.length := ⟨_, rfl⟩
   obtain ⟨nf, hnf⟩ := hnf
   rw [← hnf] at hform
   subst hform
   have hsy : fy ≤ nf := by rw [hnf]; exact hok.syn _ (atP_mem hf2)
   have hlen2 : nf ≤ 67108864 := by have := totP_mem hf2; simp only at this; have := hok.tot; have := hok.cap1; simp only at *; omega
   have hmp := hM.map
   obtain ⟨es, hmp⟩ := hmp
   obtain ⟨ck, hmp⟩ := hmp
   have hlook := hmp.look (ofL x)
   have e1 : atN (fl.map fun f => (f.nm, f.b)) (ofL x) = some fb := by
    have := atF_nb (ofL x) fl
    rw [hf1] at this
    exact this
   rw [e1] at hlook
   have hlook2 : (Instr.lookup 77 (.map (some mb)) (.string (ofL x)) false).run Try.prog wr = .ok (.pointer (some ⟨fb, 0, none⟩)) wr := hlook
   have c0 := hM.box.cells.1
   have lfb := hfb.1.lt
   simp only at lfb
   have HX := Lib.hid (And.intro hM (And.intro hfs (And.intro hok (And.intro hf1 (And.intro hf2 (And.intro hdrop (And.intro hfb hnf)))))))
   have HSY := Lib.hid hsy
   clear hM hfs hok hf hf1 hf2 hmp hlook e1 hmem hfb hdrop hx hnf
   go_upto_region 6 with fail
   have BD : Below wr.heap.size wr wr.drew := (Below.refl _ _).drew
   refine wp_region_noPanic ?_
   refine wp_region_anyE (S := fun wx => Below wr.heap.size wr wx) (E := fun j => true) (by kernel_rfl) ?_
   have hHeld : Below wr.heap.size wr wr.drew := BD
   have HB := Lib.hid BD
   have hZ0 : ∃ z, z = wr.drew := ⟨_, rfl⟩
   obtain ⟨Z0, hZ0⟩ := hZ0
   rw [← hZ0] at HB hHeld ⊢
   clear hZ0 BD
   refine AnyE.take (i := 0) (.pointer (some ⟨fb, 0, none⟩)) rfl (by kernel_rfl) (by kernel_rfl) (by kernel_rfl) (by kernel_rfl) (fun _ _ _ h => h) (.inl ⟨by kernel_rfl, fun wy hy => by (go_simp; done)⟩) hHeld ?_
   try simp only [Act.put, List.setIfInBounds_toArray, List.set_cons_zero, List.set_cons_succ]
   refine AnyE.take (i := 1) (.pointer (some ⟨fb, 0, none⟩)) rfl (by kernel_rfl) (by kernel_rfl) (by kernel_rfl) (by kernel_rfl) (fun _ _ _ h => h) (.inl ⟨by kernel_rfl, fun wy hy => by (go_simp; done)⟩) hHeld ?_
   try simp only [Act.put, List.setIfInBounds_toArray, List.set_cons_zero, List.set_cons_succ]
   refine AnyE.take (i := 2) (.pointer (some ⟨fb, 1, none⟩)) rfl (by kernel_rfl) (by kernel_rfl) (by kernel_rfl) (by kernel_rfl) (fun _ _ _ h => h) (.inl ⟨by kernel_rfl, fun wy hy => by (go_simp; done)⟩) hHeld ?_
   try simp only [Act.put, List.setIfInBounds_toArray, List.set_cons_zero, List.set_cons_succ]
   refine AnyE.take (i := 3) (.int .i64 (fy : Int)) rfl (by kernel_rfl) (by kernel_rfl) (by kernel_rfl) (by kernel_rfl) (fun _ _ _ h => h) (.inl ⟨by kernel_rfl, fun wy hy => by (have q0 := ((HX.out.2.2.2.2.2.2.1.1).kept (hy.block _ lfb)).cells.2; go_simp; done)⟩) hHeld ?_
   try simp only [Act.put, List.setIfInBounds_toArray, List.set_cons_zero, List.set_cons_succ]
   refine AnyE.take (i := 4) (.pointer (some ⟨fb, 0, none⟩)) rfl (by kernel_rfl) (by kernel_rfl) (by kernel_rfl) (by kernel_rfl) (fun _ _ _ h => h) (.inl ⟨by kernel_rfl, fun wy hy => by (go_simp; done)⟩) hHeld ?_
   try simp only [Act.put, List.setIfInBounds_toArray, List.set_cons_zero, List.set_cons_succ]
   refine AnyE.take (i := 5) (.pointer (some ⟨fb, 0, none⟩)) rfl (by kernel_rfl) (by kernel_rfl) (by kernel_rfl) (by kernel_rfl) (fun _ _ _ h => h) (.inl ⟨by kernel_rfl, fun wy hy => by (go_simp; done)⟩) hHeld ?_
   try simp only [Act.put, List.setIfInBounds_toArray, List.set_cons_zero, List.set_cons_succ]
   refine AnyE.take (i := 6) (.pointer (some ⟨fb, 0, none⟩)) rfl (by kernel_rfl) (by kernel_rfl) (by kernel_rfl) (by kernel_rfl) (fun _ _ _ h => h) (.inl ⟨by kernel_rfl, fun wy hy => by (go_simp; done)⟩) hHeld ?_
   try simp only [Act.put, List.setIfInBounds_toArray, List.set_cons_zero, List.set_cons_succ]
   refine AnyE.take (i := 7) (.slice af nf kf) rfl (by kernel_rfl) (by kernel_rfl) (by kernel_rfl) (by kernel_rfl) (fun _ _ _ h => h) (.inl ⟨by kernel_rfl, fun wy hy => by (have q0 := ((HX.out.2.2.2.2.2.2.1.1).kept (hy.block _ lfb)).cells.1; go_simp; done)⟩) hHeld ?_
   try simp only [Act.put, List.setIfInBounds_toArray, List.set_cons_zero, List.set_cons_succ]
   refine AnyE.take (i := 8) (.int .i64 (nf : Int)) rfl (by kernel_rfl) (by kernel_rfl) (by kernel_rfl) (by kernel_rfl) (fun _ _ _ h => h) (.inl ⟨by kernel_rfl, fun wy hy => by (go_simp; first | done | (cases af <;> (go_simp; done)))⟩) hHeld ?_
   try simp only [Act.put, List.setIfInBounds_toArray, List.set_cons_zero, List.set_cons_succ]
   refine AnyE.take (i := 9) (.bool ((fy : Int) == (nf : Int))) rfl (by kernel_rfl) (by kernel_rfl) (by kernel_rfl) (by kernel_rfl) (fun _ _ _ h => h) (.inl ⟨by kernel_rfl, fun wy hy => by (go_simp; done)⟩) hHeld ?_
   try simp only [Act.put, List.setIfInBounds_toArray, List.set_cons_zero, List.set_cons_succ]
   refine AnyE.done (by kernel_rfl) (NoPanic.normal ?_) _
   have hZ9 : ∃ z, z = Z0 := ⟨_, rfl⟩
   obtain ⟨Y, hZ9⟩ := hZ9
   rw [← hZ9] at HB ⊢
   clear hHeld hZ9 hlook2 c0 hcl
   go_simp
   go_step
   have hRR := HDK.out.2.2.2.2
   rw [HX.out.2.2.2.2.2.1, crashF, HX.out.2.2.2.2.1] at hRR
   simp only [Option.getD_some] at hRR
   rw [← HX.out.2.2.2.2.2.2.2] at hRR
   have HRR := Lib.hid hRR
   have HGY := Lib.hid (HDK.out.2.1.trans (Go4.of_below (O := O2) HB.out))
   have HOY := Lib.hid (HOWN.out.later HB.out)
   have HRY := Lib.hid (HDK.out.2.2.1.go (Go4.of_below (O := O2) HB.out))
   have HMY := Lib.hid (HX.out.1.below HB.out)
   clear hRR
   by_cases hs : fy = nf
   ·have d1 : ((fy : Int) == (nf : Int)) = true := by simp [hs]
    have HS := Lib.hid hs
    clear hs
    go_wp2
    go_roundw
    case rel =>
     have h1 := HRR.out
     rw [if_pos HS.out] at h1
     exact ⟨t + 1, tl, fs, O2, by omega, by omega, by go_num, rfl, ⟨HX.out.2.2.1, mb, fl, HMY.out, HX.out.2.1⟩, HGY.out, HRY.out, HOY.out, HDK.out.2.2.2.1, h1⟩
    case measure => simp [intOf]; omega
   ·have d1 : ((fy : Int) == (nf : Int)) = false := by simp; omega
    have HS := Lib.hid hs
    clear hs
    by_cases hcu : tl < nc
    ·have i1 : (tl : Int) < (nc : Int) := by omega
     have i2 : (0 : Int) ≤ (tl : Int) := by omega
     have hj : ∃ j, cuts[tl]? = some j := ⟨_, List.getElem?_eq_getElem (by rw [← HNC.out]; exact hcu)⟩
     obtain ⟨st, hj⟩ := hj
     have hcc := HRY.out.cel tl st hj
     obtain ⟨bc, hcc⟩ := hcc
     obtain ⟨oc, hcc⟩ := hcc
     have hac := hcc.1
     have hcv := hcc.2.2
     subst hac
     have hst : cuts.getD tl 0 = st := by rw [List.getD_eq_getElem?_getD, hj]; rfl
     have HST := Lib.hid hst
     clear hcc hst hj
     go_wp2_with fail
     refine (cut_any (b := fb) (syn := fy) (v := .slice af nf kf) (dat := fd) (st := st) (HMY.out.fil _ (atF_mem HX.out.2.2.2.1).1).1 (HMY.out.fil _ (atF_mem HX.out.2.2.2.1).1).2.1 (by rw [← HX.out.2.2.2.2.2.2.2]; exact HSY.out) (by rw [← HX.out.2.2.2.2.2.2.2]; exact hlen2) (fun g hg => (HMY.out.neDat (atF_mem HX.out.2.2.2.1).1 hg).2.2 _ (atF_mem HX.out.2.2.2.1).1)).mono ?_
     rintro e Y2 ⟨rfl, v', bx2, ox2, hv2, g2⟩
     have hcut := cut_dsk (f := ⟨ofL x, fb, .slice af nf kf, fd, fy⟩) HMY.out HX.out.2.2.2.1 bx2 ox2 hv2 g2
     obtain ⟨O3, hcut⟩ := hcut
     have hkl := keepN_le (syn := fy) (len := fd.length) (by rw [← HX.out.2.2.2.2.2.2.2]; exact HSY.out) st
     have hfo : FsOk d.cap (setP fs (ofL x, fd.take (keepN fy fd.length st), keepN fy fd.length st)) := fsOk_set (d := ⟨fs, d.cap, d.arm, d.down, d.c⟩) HX.out.2.2.1 HX.out.2.2.2.2.1 (by have h1 := HX.out.2.2.1.tot; have h2 := HX.out.2.2.1.cap0; simp only at h1 h2 ⊢; rw [List.length_take]; omega) (by rw [List.length_take]; omega)
     have hpf : (setF fl ⟨ofL x, fb, v', fd.take (keepN fy fd.length st), keepN fy fd.length st⟩).map FE.pf = setP fs (ofL x, fd.take (keepN fy fd.length st), keepN fy fd.length st) := by rw [setF_pf, HX.out.2.1]; rfl
     have HC := Lib.hid (And.intro hcut.1 (And.intro hcut.2 (And.intro hfo hpf)))
     have HO9 := Lib.hid (HOY.out.go g2 (HOY.out.ne (HMY.out.fil _ (atF_mem HX.out.2.2.2.1).1).1))
     clear bx2 ox2 hv2 g2 hcut hkl hfo hpf
     go_wp2
     go_roundw
     case rel =>
      have h1 := HRR.out
      rw [if_neg HS.out, HST.out, HX.out.2.2.2.2.2.2.2] at h1
      exact ⟨t + 1, tl + 1, _, O3, by omega, by omega, by go_num, by go_num, ⟨HX.out.2.2.1.mk2 HC.out.2.2.1 HX.out.2.2.1.arm0 HX.out.2.2.1.arm1 _ _, mb, _, HC.out.1, HC.out.2.2.2⟩, HGY.out.trans HC.out.2.1, HRY.out.go HC.out.2.1, HO9.out, fun y hy => atP_set_some _ ⟨_, HX.out.2.2.2.2.1⟩ (HDK.out.2.2.2.1 y hy), h1⟩
     case measure => simp [intOf]; omega
    ·have i1 : ¬ (tl : Int) < (nc : Int) := by omega
     have hst : cuts.getD tl 0 = 0 := by rw [List.getD_eq_getElem?_getD, List.getElem?_eq_none (by rw [← HNC.out]; omega)]; rfl
     have HST := Lib.hid hst
     clear hst
     go_wp2_with fail
     refine (cut_any (b := fb) (syn := fy) (v := .slice af nf kf) (dat := fd) (st := 0) (HMY.out.fil _ (atF_mem HX.out.2.2.2.1).1).1 (HMY.out.fil _ (atF_mem HX.out.2.2.2.1).1).2.1 (by rw [← HX.out.2.2.2.2.2.2.2]; exact HSY.out) (by rw [← HX.out.2.2.2.2.2.2.2]; exact hlen2) (fun g hg => (HMY.out.neDat (atF_mem HX.out.2.2.2.1).1 hg).2.2 _ (atF_mem HX.out.2.2.2.1).1)).mono ?_
     rintro e Y2 ⟨rfl, v', bx2, ox2, hv2, g2⟩
     have hcut := cut_dsk (f := ⟨ofL x, fb, .slice af nf kf, fd, fy⟩) HMY.out HX.out.2.2.2.1 bx2 ox2 hv2 g2
     obtain ⟨O3, hcut⟩ := hcut
     have hkl := keepN_le (syn := fy) (len := fd.length) (by rw [← HX.out.2.2.2.2.2.2.2]; exact HSY.out) 0
     have hfo : FsOk d.cap (setP fs (ofL x, fd.take (keepN fy fd.length 0), keepN fy fd.length 0)) := fsOk_set (d := ⟨fs, d.cap, d.arm, d.down, d.c⟩) HX.out.2.2.1 HX.out.2.2.2.2.1 (by have h1 := HX.out.2.2.1.tot; have h2 := HX.out.2.2.1.cap0; simp only at h1 h2 ⊢; rw [List.length_take]; omega) (by rw [List.length_take]; omega)
     have hpf : (setF fl ⟨ofL x, fb, v', fd.take (keepN fy fd.length 0), keepN fy fd.length 0⟩).map FE.pf = setP fs (ofL x, fd.take (keepN fy fd.length 0), keepN fy fd.length 0) := by rw [setF_pf, HX.out.2.1]; rfl
     have HC := Lib.hid (And.intro hcut.1 (And.intro hcut.2 (And.intro hfo hpf)))
     have HO9 := Lib.hid (HOY.out.go g2 (HOY.out.ne (HMY.out.fil _ (atF_mem HX.out.2.2.2.1).1).1))
     clear bx2 ox2 hv2 g2 hcut hkl hfo hpf
     go_wp2
     go_roundw
     case rel =>
      have h1 := HRR.out
      rw [if_neg HS.out, HST.out, HX.out.2.2.2.2.2.2.2] at h1
      exact ⟨t + 1, tl + 1, _, O3, by omega, by omega, by go_num, by go_num, ⟨HX.out.2.2.1.mk2 HC.out.2.2.1 HX.out.2.2.1.arm0 HX.out.2.2.1.arm1 _ _, mb, _, HC.out.1, HC.out.2.2.2⟩, HGY.out.trans HC.out.2.1, HRY.out.go HC.out.2.1, HO9.out, fun y hy => atP_set_some _ ⟨_, HX.out.2.2.2.2.1⟩ (HDK.out.2.2.2.1 y hy), h1⟩
     case measure => simp [intOf]; omega
  ·have j1 : (nl : Int) ≤ (t : Int) := by omega
   have hend : L.drop t = [] := by rw [List.drop_eq_nil_iff]; have := HOWN.out.1; omega
   have HEND := Lib.hid hend
   clear hend hlt
   have hd5 := HDK.out.1
   unfold Dsk at hd5
   have hd6 := hd5.2
   obtain ⟨mb, hd6⟩ := hd6
   obtain ⟨fl, hd6⟩ := hd6
   have hM := hd6.1
   have hfs := hd6.2
   have z3 := hM.box.fz 3
   have z2 := hM.box.fz 2
   have c3 := hM.box.cells.2.2.2.1
   have c2 := hM.box.cells.2.2.1
   simp only at c3 c2
   have hM2 := (hM.setDown false).setArm 0
   have gM2 : Go4 wr ((wr.setCell ⟨dB, 3, none⟩ (.bool false)).setCell ⟨dB, 2, none⟩ (.int .i64 0)) O2 O2 := (Go4.of_set (a := ⟨dB, 3, none⟩) hM.odb _).trans (Go4.of_set (a := ⟨dB, 2, none⟩) hM.odb _)
   have HF := Lib.hid (And.intro hM2 (And.intro gM2 (And.intro hd5.1 hfs)))
   clear hM hfs hd5 hd6 hM2 gM2
   go_wp2
   go_ret
   have hRR := HDK.out.2.2.2.2
   rw [HEND.out] at hRR
   have r1 : R = (tl, fs) := hRR
   rw [r1]
   refine ⟨rfl, O2, ⟨HF.out.2.2.1.mk2 HF.out.2.2.1.fs (by omega) (by omega) _ _, mb, fl, HF.out.1, HF.out.2.2.2⟩, HDK.out.2.1.trans HF.out.2.1⟩
end Go.Proofs.Ytlkhphhmhffdjaa

namespace Go.Proofs.Ytlkhphhmhffdjaa
open Go.RowKit Go.MapKept Go.Sort
variable {w w' W X : World} {O O' : Nat → Prop} {dB : Nat} {d : Dk4}
structure RdF4 (w : World) (a : Option Addr) (k : Nat) (l : List (PF × Value)) : Prop where
 cap : l.length ≤ k ∧ k ≤ maxLen
 cel : ∀ i x, l[i]? = some x → ∃ g off, a = some ⟨g, off, none⟩ ∧ w.cell? ⟨g, off + i * 3, none⟩ = some (.string x.1.1) ∧ w.cell? ⟨g, off + i * 3 + 1, none⟩ = some x.2 ∧ w.cell? ⟨g, off + i * 3 + 2, none⟩ = some (.int .i64 (x.1.2.2 : Int))
 dat : ∀ x ∈ l, ∃ ap cp, x.2 = .slice ap x.1.2.1.length cp ∧ Rd w x.2 x.1.2.1
theorem RdF4.later {a : Option Addr} {k : Nat} {l : List (PF × Value)} (h : RdF4 w a k l) (b : Below w.heap.size w w') : RdF4 w' a k l := by
 refine ⟨h.cap, fun i x hx => ?_, fun x hx => ?_⟩
 ·obtain ⟨g, off, e, h0, h1, h2⟩ := h.cel i x hx
  exact ⟨g, off, e, (b.cell (p := ⟨g, _, none⟩) (World.block_lt_of_cell? _ _ h0)).trans h0, (b.cell (p := ⟨g, _, none⟩) (World.block_lt_of_cell? _ _ h1)).trans h1, (b.cell (p := ⟨g, _, none⟩) (World.block_lt_of_cell? _ _ h2)).trans h2⟩
 ·obtain ⟨ap, cp, e, hr⟩ := h.dat x hx
  exact ⟨ap, cp, e, hr.later b⟩
theorem fCells_at : ∀ (l : List (PF × Value)) (i : Nat) (x : PF × Value), l[i]? = some x → (fCells l)[i * 3]? = some (.string x.1.1) ∧ (fCells l)[i * 3 + 1]? = some x.2 ∧ (fCells l)[i * 3 + 2]? = some (.int .i64 (x.1.2.2 : Int))
 | y :: ys, 0, x, h => by
  simp at h
  subst h
  exact ⟨rfl, rfl, rfl⟩
 | y :: ys, i + 1, x, h => by
  have := fCells_at ys i x (by simpa using h)
  have e0 : (i + 1) * 3 = i * 3 + 3 := by omega
  rw [e0]
  simpa [fCells] using this
theorem FLs.rd {B n k : Nat} {a : Option Addr} {l : List (PF × Value)} (h : FLs w B (.slice a n k) n l) (hl : ∀ x ∈ l, x.1.2.1.length ≤ 281474976710656) : n = l.length ∧ RdF4 w a k l := by
 refine ⟨h.len, ?_⟩
 have hd : ∀ x ∈ l, ∃ ap cp, x.2 = .slice ap x.1.2.1.length cp ∧ Rd w x.2 x.1.2.1 := fun x hx => by
  obtain ⟨ap, cp, e⟩ := (h.dat x hx).form
  exact ⟨ap, cp, e, (h.dat x hx).rd (hl x hx)⟩
 have hlen := h.len
 rcases h.row.2 with ⟨h1, h2⟩ | ⟨g, cap, cur, h1, h2, h3, h4, h5, h6, h7⟩
 ·simp only [Value.slice.injEq] at h1
  obtain ⟨rfl, _, rfl⟩ := h1
  have : l = [] := List.eq_nil_of_length_eq_zero (by omega)
  subst this
  exact ⟨⟨by simp, by decide⟩, fun i x hx => by simp at hx, hd⟩
 ·simp only [Value.slice.injEq] at h1
  obtain ⟨rfl, _, rfl⟩ := h1
  refine ⟨⟨by omega, h5⟩, fun i x hx => ⟨g, 0, rfl, ?_⟩, hd⟩
  have hi := (List.getElem?_eq_some_iff.1 hx).1
  have c := fCells_at l i x hx
  have key : ∀ (j : Nat) (u : Value), (fCells l)[j]? = some u → w.cell? ⟨g, 0 + j, none⟩ = some u := fun j u hu => by
   have hj := (List.getElem?_eq_some_iff.1 hu).1
   rw [fCells_len] at hj
   rw [← h7, List.getElem?_take_of_lt (by omega)] at hu
   simp only [World.cell?, h3, Nat.zero_add]
   simpa using hu
  exact ⟨key _ _ c.1, key _ _ c.2.1, key _ _ c.2.2⟩
end Go.Proofs.Ytlkhphhmhffdjaa
