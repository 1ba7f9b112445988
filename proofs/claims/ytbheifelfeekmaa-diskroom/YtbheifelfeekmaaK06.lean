import Derived.Test.YtbheifelfeekmaaK05
namespace Go.Proofs.Ytbheifelfeekmaa
open Go.RowKit Go.MapKept Go.Sort
set_option linter.unusedVariables false
set_option linter.unusedSimpArgs false
variable {w w' W X : World} {O O' : Nat → Prop} {dB : Nat} {d : Dk4}
structure RdI4 (w : World) (O : Nat → Prop) (a : Option Addr) (k : Nat) (js : List Int) : Prop where
  cap : js.length ≤ k ∧ k ≤ maxLen
  cel : ∀ i j, js[i]? = some j → ∃ b off, a = some ⟨b, off, none⟩ ∧ ¬ O b ∧ w.cell? ⟨b, off + i, none⟩ = some (.int .i64 j)
theorem RdI4.go {a : Option Addr} {k : Nat} {js : List Int} (h : RdI4 w O a k js) (g : Go4 w w' O O') : RdI4 w' O' a k js := by
  refine ⟨h.cap, fun i j hj => ?_⟩
  obtain ⟨b, off, e, hn, hc⟩ := h.cel i j hj
  have hl := World.block_lt_of_cell? _ _ hc
  simp only at hl
  exact ⟨b, off, e, fun z => (g.new b z).elim hn (fun q => by omega), (World.cell?_of_block (a := ⟨b, off + i, none⟩) (g.block b hl hn)).trans hc⟩
def crashF (cuts : List Int) : List (List UInt8) → Nat → List PF → Nat × List PF
  | [], t, fs => (t, fs)
  | x :: xs, t, fs =>
    let v := (atP fs (ofL x)).getD ([], 0)
    if v.2 = v.1.length then crashF cuts xs t fs
    else crashF cuts xs (t + 1) (setP fs (ofL x, v.1.take (keepN v.2 v.1.length (cuts.getD t 0)), keepN v.2 v.1.length (cuts.getD t 0)))
def crashD (d : Dk4) (cuts : List Int) : Nat × Dk4 := ((crashF cuts (lsP d.fs ⟨#[]⟩) 0 d.fs).1, ⟨(crashF cuts (lsP d.fs ⟨#[]⟩) 0 d.fs).2, d.cap, 0, false, d.c⟩)
theorem cut_dsk {mb : Nat} {fl : List FE} {cap arm : Int} {down : Bool} {c : Nat → Int} {f : FE} {v' : Value} {k : Nat} (h : DskM w O dB mb fl cap arm down c) (hf : atF fl f.nm = some f) (hb : FBox w' f.b v' k) (ho : OwnO w' (fun i => f.v.ownBlock = some i ∨ w.heap.size ≤ i) v' (f.dat.take k)) (hv : v' = f.v ∨ ∀ g, v'.ownBlock = some g → w.heap.size ≤ g) (g : Go4 w w' (fun i => i = f.b) (fun i => i = f.b)) :
    ∃ O2, DskM w' O2 dB mb (setF fl ⟨f.nm, f.b, v', f.dat.take k, k⟩) cap arm down c ∧ Go4 w w' O O2 := by
  have hm := atF_mem hf
  have hfil := h.fil f hm.1
  have hw : ∀ i, v'.ownBlock = some i → i < w'.heap.size := fun i hi => by
    obtain ⟨cur, ht⟩ := ho.typ hi
    exact (Array.getElem?_eq_some_iff.1 ht).1
  have hv2 : ∀ i, v'.ownBlock = some i → O i ∨ w.heap.size ≤ i := fun i hi => by
    rcases hv with rfl | hv
    · exact .inl (hfil.2.1.blk i hi)
    · exact .inr (hv i hi)
  refine ⟨fun i => O i ∨ v'.ownBlock = some i, h.inF (f := f) (f' := ⟨f.nm, f.b, v', f.dat.take k, k⟩) hf rfl hb (ho.kept (fun g hg => ⟨rfl, .inr hg⟩)) (fun i hi => .inl hi) (fun i h1 h2 _ => g.block i (h.lt i h1) h2) (fun i hi => ?_) (fun i hi => ?_), ⟨g.os, g.tape, g.output, g.size, fun i hi hn => g.block i hi (fun e => hn (e ▸ hfil.2.2)), fun i hi => hi.elim .inl (hv2 i)⟩⟩
  · rcases hv with rfl | hv
    · exact .inl hi
    · exact .inr (fun z => by have := hv i hi; have := h.lt i z; omega)
  · exact hi.elim (fun z => Nat.lt_of_lt_of_le (h.lt i z) g.size) (hw i)
theorem OwnS.ne {B n b syn : Nat} {v v2 : Value} {ss : List (List UInt8)} (h : OwnS w B v n ss) (k : FBox w b v2 syn) : ∀ g, v.ownBlock = some g → g ≠ b := by
  intro g hg e
  rcases h.2.2 with ⟨rfl, _⟩ | ⟨g2, cap, cur, rfl, _, h5, _⟩
  · cases hg
  · simp only [Value.ownBlock, Option.some.injEq] at hg
    unfold FBox at k
    rw [hg, e, k] at h5
    simp only [Option.some.injEq, Obj.cells.injEq] at h5
    exact absurd h5.2.1 (by decide)
theorem OwnS.go {B n b : Nat} {v : Value} {ss : List (List UInt8)} (h : OwnS w B v n ss) (g : Go4 w w' (fun i => i = b) O') (hn : ∀ g, v.ownBlock = some g → g ≠ b) : OwnS w' B v n ss := by
  refine ⟨h.1, h.2.1, ?_⟩
  rcases h.2.2 with h2 | ⟨g2, cap, cur, h3, h4, h5, h6⟩
  · exact .inl h2
  · exact .inr ⟨g2, cap, cur, h3, h4, by rw [g.block g2 (Array.getElem?_eq_some_iff.1 h5).1 (hn g2 (by rw [h3]; rfl))]; exact h5, h6⟩
theorem atP_set_ne {f : PF} {s : ByteArray} (hne : f.1 ≠ s) : ∀ l : List PF, (∃ v, atP l f.1 = some v) → atP (setP l f) s = atP l s
  | [], h => by obtain ⟨v, hv⟩ := h; cases hv
  | x :: xs, h => by
    by_cases e : x.1 = f.1
    · rw [setP, if_pos e, atP, atP, if_neg hne, if_neg (fun q => hne (by rw [← e, q]))]
    · rw [setP, if_neg e, atP, atP]
      rw [atP, if_neg e] at h
      by_cases e2 : x.1 = s
      · rw [if_pos e2, if_pos e2]
      · rw [if_neg e2, if_neg e2, atP_set_ne hne xs h]
theorem atP_set_some {f : PF} {s : ByteArray} : ∀ l : List PF, (∃ v, atP l f.1 = some v) → (∃ v, atP l s = some v) → ∃ v, atP (setP l f) s = some v := fun l h k => by
  by_cases e : f.1 = s
  · subst e
    obtain ⟨v, hv⟩ := h
    have hm := setP_names (f := f) hv
    cases hq : atP (setP l f) f.1 with
    | some v => exact ⟨v, rfl⟩
    | none =>
      exfalso
      have h1 : f.1 ∈ l.map (·.1) := List.mem_map.2 ⟨_, atP_mem hv, rfl⟩
      rw [← hm] at h1
      obtain ⟨p, hp, e⟩ := List.mem_map.1 h1
      exact atP_none hq p hp e
  · rw [atP_set_ne e l h]
    exact k
set_option maxRecDepth 100000 in
set_option maxHeartbeats 4000000 in
theorem crash_any {a : Option Addr} {nc kc : Nat} {cuts : List Int} (hD : Dsk w O dB d) (hr : RdI4 w O a kc cuts) (hnc : nc = cuts.length) :
    Calls Try.prog 23 #[.pointer (some ⟨dB, 0, none⟩), .slice a nc kc] w fun e w' => e = .returned (.int .i64 ((crashD d cuts).1 : Int)) ∧ ∃ O2, Dsk w' O2 dB (crashD d cuts).2 ∧ Go4 w w' O O2 := by
  have HD := Lib.hid hD
  have HLIST := Lib.hid (list_dsk hD ⟨#[]⟩)
  obtain ⟨L, hL⟩ : ∃ L, L = lsP d.fs ⟨#[]⟩ := ⟨_, rfl⟩
  obtain ⟨R, hR⟩ : ∃ R, R = crashF cuts L 0 d.fs := ⟨_, rfl⟩
  have hC : crashD d cuts = (R.1, ⟨R.2, d.cap, 0, false, d.c⟩) := by rw [hR, hL]; rfl
  rw [hC]
  rw [← hL] at HLIST
  have hlen : L.length ≤ 256 := by
    rw [hL]
    unfold lsP
    rw [List.length_mergeSort, List.length_map]
    refine Nat.le_trans (List.length_filter_le _ _) ?_
    rw [List.length_map]
    exact hD.1.cnt
  have hall : ∀ x ∈ L, ∃ v, atP d.fs (ofL x) = some v := fun x hx => lsP_at (by rw [← hL]; exact hx)
  have HL := Lib.hid (And.intro hlen (And.intro hall hR))
  have hncx : nc ≤ 9223372036854775807 := by have := hr.cap; unfold maxLen at this; omega
  have HR := Lib.hid hr
  have HNC := Lib.hid hnc
  clear hD hL hC hlen hall hr hnc hR
  simp only
  go_enter Try.func23, Try.ntmps23
  go_wp2_with fail
  refine HLIST.out.mono ?_
  rintro e w1 ⟨al, nl, kl, rfl, o1, b1⟩
  have HO1 := Lib.hid o1
  have HD1 := Lib.hid (And.intro (HD.out.below b1) (And.intro (Go4.of_below (O := O) b1) (HR.out.go (Go4.of_below (O := O) b1))))
  have hnl : nl ≤ 256 := by rw [o1.1]; exact HL.out.1
  clear o1 b1
  go_wp2_with fail
  go_loopw [5, 13] (fun tv i wr => ∃ (t tl : Nat) (fs : List PF) (O2 : Nat → Prop), t ≤ nl ∧ tl ≤ t ∧ i = .int .i64 (t : Int) ∧ tv = .int .i64 (tl : Int) ∧ Dsk wr O2 dB ⟨fs, d.cap, d.arm, d.down, d.c⟩ ∧ Go4 w wr O O2 ∧ RdI4 wr O2 a kc cuts ∧ OwnS wr w.heap.size (.slice al nl kl) nl L ∧ (∀ x ∈ L, ∃ v, atP fs (ofL x) = some v) ∧ R = crashF cuts (L.drop t) tl fs) (fun _ i _ => nl - (intOf i).toNat)
  case atStart => exact ⟨0, 0, d.fs, O, Nat.zero_le _, Nat.le_refl _, rfl, rfl, HD1.out.1, HD1.out.2.1, HD1.out.2.2, HO1.out, HL.out.2.1, HL.out.2.2⟩
  case round =>
    obtain ⟨t, tl, fs, O2, ht, htl, rfl, rfl, hdsk, hgo, hri, hown, hat, hRR⟩ := hrel
    have HDK := Lib.hid (And.intro hdsk (And.intro hgo (And.intro hri (And.intro hat hRR))))
    have HOWN := Lib.hid hown
    clear hdsk hgo hri hat hRR hown
    by_cases hlt : t < nl
    · skip
      have j1 : (t : Int) < (nl : Int) := by omega
      have j2 : (0 : Int) ≤ (t : Int) := by omega
      have htL : t < L.length := by rw [← HOWN.out.1]; exact hlt
      have hx : ∃ x, L[t]? = some x := ⟨_, List.getElem?_eq_getElem htL⟩
      obtain ⟨x, hx⟩ := hx
      have hdrop : L.drop t = x :: L.drop (t + 1) := by
        rw [List.drop_eq_getElem_cons htL]
        rw [List.getElem?_eq_getElem htL] at hx
        cases hx
        rfl
      have hc := HOWN.out.rd.2.cel t (ofL x) (by rw [List.getElem?_map, hx]; rfl)
      obtain ⟨gl, hc⟩ := hc
      obtain ⟨ol, hc⟩ := hc
      have hal := hc.1
      have hcl := hc.2
      subst hal
      clear hc
      have hd5 := HDK.out.1
      unfold Dsk at hd5
      have hd6 := hd5.2
      obtain ⟨mb, hd6⟩ := hd6
      obtain ⟨fl, hd6⟩ := hd6
      have hM := hd6.1
      have hfs := hd6.2
      have hok := hd5.1
      simp only at hM hfs
      clear hd5 hd6
      have hatF : ∃ f, atF fl (ofL x) = some f ∧ atP fs (ofL x) = some (f.dat, f.syn) := by
        obtain ⟨v, hv⟩ := HDK.out.2.2.2.1 x (List.mem_of_getElem? hx)
        rw [← hfs, atF_pf] at hv ⊢
        cases h : atF fl (ofL x) with
        | none => rw [h] at hv; cases hv
        | some f => exact ⟨f, rfl, rfl⟩
      obtain ⟨f, hf⟩ := hatF
      obtain ⟨fn, fb, fv, fd, fy⟩ := f
      have hf1 := hf.1
      have hf2 := hf.2
      simp only at hf2
      have hmem := atF_mem hf1
      have hfn := hmem.2
      simp only at hfn
      subst hfn
      have hfb := hM.fil _ hmem.1
      have hform := hfb.2.1.form
      obtain ⟨af, hform⟩ := hform
      obtain ⟨kf, hform⟩ := hform
      simp only at hform
      have hnf : ∃ nf, nf = fd.length := ⟨_, rfl⟩
      obtain ⟨nf, hnf⟩ := hnf
      rw [← hnf] at hform
      subst hform
      have hsy : fy ≤ nf := by rw [hnf]; exact hok.syn _ (atP_mem hf2)
      have hlen2 : nf ≤ 67108864 := by have := totP_mem hf2; simp only at this; have := hok.tot; have := hok.cap1; simp only at *; omega
      have hmp := hM.map
      obtain ⟨es, hmp⟩ := hmp
      obtain ⟨ck, hmp⟩ := hmp
      have hlook := hmp.look (ofL x)
      have e1 : atN (fl.map fun f => (f.nm, f.b)) (ofL x) = some fb := by
        have := atF_nb (ofL x) fl
        rw [hf1] at this
        exact this
      rw [e1] at hlook
      have hlook2 : (Instr.lookup 76 (.map (some mb)) (.string (ofL x)) false).run Try.prog wr = .ok (.pointer (some ⟨fb, 0, none⟩)) wr := hlook
      have c0 := hM.box.cells.1
      have lfb := hfb.1.lt
      simp only at lfb
      have HX := Lib.hid (And.intro hM (And.intro hfs (And.intro hok (And.intro hf1 (And.intro hf2 (And.intro hdrop (And.intro hfb hnf)))))))
      have HSY := Lib.hid hsy
      clear hM hfs hok hf hf1 hf2 hmp hlook e1 hmem hfb hdrop hx hnf
      go_upto_region 6 with fail
      have BD : Below wr.heap.size wr wr.drew := (Below.refl _ _).drew
      refine wp_region_noPanic ?_
      refine wp_region_anyE (S := fun wx => Below wr.heap.size wr wx) (E := fun j => true) (by kernel_rfl) ?_
      have hHeld : Below wr.heap.size wr wr.drew := BD
      have HB := Lib.hid BD
      have hZ0 : ∃ z, z = wr.drew := ⟨_, rfl⟩
      obtain ⟨Z0, hZ0⟩ := hZ0
      rw [← hZ0] at HB hHeld ⊢
      clear hZ0 BD
      refine AnyE.take (i := 0) (.pointer (some ⟨fb, 0, none⟩)) rfl (by kernel_rfl) (by kernel_rfl) (by kernel_rfl) (by kernel_rfl) (fun _ _ _ h => h) (.inl ⟨by kernel_rfl, fun wy hy => by (go_simp; done)⟩) hHeld ?_
      try simp only [Act.put, List.setIfInBounds_toArray, List.set_cons_zero, List.set_cons_succ]
      refine AnyE.take (i := 1) (.pointer (some ⟨fb, 0, none⟩)) rfl (by kernel_rfl) (by kernel_rfl) (by kernel_rfl) (by kernel_rfl) (fun _ _ _ h => h) (.inl ⟨by kernel_rfl, fun wy hy => by (go_simp; done)⟩) hHeld ?_
      try simp only [Act.put, List.setIfInBounds_toArray, List.set_cons_zero, List.set_cons_succ]
      refine AnyE.take (i := 2) (.pointer (some ⟨fb, 1, none⟩)) rfl (by kernel_rfl) (by kernel_rfl) (by kernel_rfl) (by kernel_rfl) (fun _ _ _ h => h) (.inl ⟨by kernel_rfl, fun wy hy => by (go_simp; done)⟩) hHeld ?_
      try simp only [Act.put, List.setIfInBounds_toArray, List.set_cons_zero, List.set_cons_succ]
      refine AnyE.take (i := 3) (.int .i64 (fy : Int)) rfl (by kernel_rfl) (by kernel_rfl) (by kernel_rfl) (by kernel_rfl) (fun _ _ _ h => h) (.inl ⟨by kernel_rfl, fun wy hy => by (have q0 := ((HX.out.2.2.2.2.2.2.1.1).kept (hy.block _ lfb)).cells.2; go_simp; done)⟩) hHeld ?_
      try simp only [Act.put, List.setIfInBounds_toArray, List.set_cons_zero, List.set_cons_succ]
      refine AnyE.take (i := 4) (.pointer (some ⟨fb, 0, none⟩)) rfl (by kernel_rfl) (by kernel_rfl) (by kernel_rfl) (by kernel_rfl) (fun _ _ _ h => h) (.inl ⟨by kernel_rfl, fun wy hy => by (go_simp; done)⟩) hHeld ?_
      try simp only [Act.put, List.setIfInBounds_toArray, List.set_cons_zero, List.set_cons_succ]
      refine AnyE.take (i := 5) (.pointer (some ⟨fb, 0, none⟩)) rfl (by kernel_rfl) (by kernel_rfl) (by kernel_rfl) (by kernel_rfl) (fun _ _ _ h => h) (.inl ⟨by kernel_rfl, fun wy hy => by (go_simp; done)⟩) hHeld ?_
      try simp only [Act.put, List.setIfInBounds_toArray, List.set_cons_zero, List.set_cons_succ]
      refine AnyE.take (i := 6) (.pointer (some ⟨fb, 0, none⟩)) rfl (by kernel_rfl) (by kernel_rfl) (by kernel_rfl) (by kernel_rfl) (fun _ _ _ h => h) (.inl ⟨by kernel_rfl, fun wy hy => by (go_simp; done)⟩) hHeld ?_
      try simp only [Act.put, List.setIfInBounds_toArray, List.set_cons_zero, List.set_cons_succ]
      refine AnyE.take (i := 7) (.slice af nf kf) rfl (by kernel_rfl) (by kernel_rfl) (by kernel_rfl) (by kernel_rfl) (fun _ _ _ h => h) (.inl ⟨by kernel_rfl, fun wy hy => by (have q0 := ((HX.out.2.2.2.2.2.2.1.1).kept (hy.block _ lfb)).cells.1; go_simp; done)⟩) hHeld ?_
      try simp only [Act.put, List.setIfInBounds_toArray, List.set_cons_zero, List.set_cons_succ]
      refine AnyE.take (i := 8) (.int .i64 (nf : Int)) rfl (by kernel_rfl) (by kernel_rfl) (by kernel_rfl) (by kernel_rfl) (fun _ _ _ h => h) (.inl ⟨by kernel_rfl, fun wy hy => by (go_simp; first | done | (cases af <;> (go_simp; done)))⟩) hHeld ?_
      try simp only [Act.put, List.setIfInBounds_toArray, List.set_cons_zero, List.set_cons_succ]
      refine AnyE.take (i := 9) (.bool ((fy : Int) == (nf : Int))) rfl (by kernel_rfl) (by kernel_rfl) (by kernel_rfl) (by kernel_rfl) (fun _ _ _ h => h) (.inl ⟨by kernel_rfl, fun wy hy => by (go_simp; done)⟩) hHeld ?_
      try simp only [Act.put, List.setIfInBounds_toArray, List.set_cons_zero, List.set_cons_succ]
      refine AnyE.done (by kernel_rfl) (NoPanic.normal ?_) _
      have hZ9 : ∃ z, z = Z0 := ⟨_, rfl⟩
      obtain ⟨Y, hZ9⟩ := hZ9
      rw [← hZ9] at HB ⊢
      clear hHeld hZ9 hlook2 c0 hcl
      go_simp
      go_step
      have hRR := HDK.out.2.2.2.2
      rw [HX.out.2.2.2.2.2.1, crashF, HX.out.2.2.2.2.1] at hRR
      simp only [Option.getD_some] at hRR
      rw [← HX.out.2.2.2.2.2.2.2] at hRR
      have HRR := Lib.hid hRR
      have HGY := Lib.hid (HDK.out.2.1.trans (Go4.of_below (O := O2) HB.out))
      have HOY := Lib.hid (HOWN.out.later HB.out)
      have HRY := Lib.hid (HDK.out.2.2.1.go (Go4.of_below (O := O2) HB.out))
      have HMY := Lib.hid (HX.out.1.below HB.out)
      clear hRR
      by_cases hs : fy = nf
      · have d1 : ((fy : Int) == (nf : Int)) = true := by simp [hs]
        have HS := Lib.hid hs
        clear hs
        go_wp2
        go_roundw
        case rel =>
          have h1 := HRR.out
          rw [if_pos HS.out] at h1
          exact ⟨t + 1, tl, fs, O2, by omega, by omega, by go_num, rfl, ⟨HX.out.2.2.1, mb, fl, HMY.out, HX.out.2.1⟩, HGY.out, HRY.out, HOY.out, HDK.out.2.2.2.1, h1⟩
        case measure => simp [intOf]; omega
      · have d1 : ((fy : Int) == (nf : Int)) = false := by simp; omega
        have HS := Lib.hid hs
        clear hs
        by_cases hcu : tl < nc
        · have i1 : (tl : Int) < (nc : Int) := by omega
          have i2 : (0 : Int) ≤ (tl : Int) := by omega
          have hj : ∃ j, cuts[tl]? = some j := ⟨_, List.getElem?_eq_getElem (by rw [← HNC.out]; exact hcu)⟩
          obtain ⟨st, hj⟩ := hj
          have hcc := HRY.out.cel tl st hj
          obtain ⟨bc, hcc⟩ := hcc
          obtain ⟨oc, hcc⟩ := hcc
          have hac := hcc.1
          have hcv := hcc.2.2
          subst hac
          have hst : cuts.getD tl 0 = st := by rw [List.getD_eq_getElem?_getD, hj]; rfl
          have HST := Lib.hid hst
          clear hcc hst hj
          go_wp2_with fail
          refine (cut_any (b := fb) (syn := fy) (v := .slice af nf kf) (dat := fd) (st := st) (HMY.out.fil _ (atF_mem HX.out.2.2.2.1).1).1 (HMY.out.fil _ (atF_mem HX.out.2.2.2.1).1).2.1 (by rw [← HX.out.2.2.2.2.2.2.2]; exact HSY.out) (by rw [← HX.out.2.2.2.2.2.2.2]; exact hlen2) (fun g hg => (HMY.out.neDat (atF_mem HX.out.2.2.2.1).1 hg).2.2 _ (atF_mem HX.out.2.2.2.1).1)).mono ?_
          rintro e Y2 ⟨rfl, v', bx2, ox2, hv2, g2⟩
          have hcut := cut_dsk (f := ⟨ofL x, fb, .slice af nf kf, fd, fy⟩) HMY.out HX.out.2.2.2.1 bx2 ox2 hv2 g2
          obtain ⟨O3, hcut⟩ := hcut
          have hkl := keepN_le (syn := fy) (len := fd.length) (by rw [← HX.out.2.2.2.2.2.2.2]; exact HSY.out) st
          have hfo : FsOk d.cap (setP fs (ofL x, fd.take (keepN fy fd.length st), keepN fy fd.length st)) := fsOk_set (d := ⟨fs, d.cap, d.arm, d.down, d.c⟩) HX.out.2.2.1 HX.out.2.2.2.2.1 (by have h1 := HX.out.2.2.1.tot; have h2 := HX.out.2.2.1.cap0; simp only at h1 h2 ⊢; rw [List.length_take]; omega) (by rw [List.length_take]; omega)
          have hpf : (setF fl ⟨ofL x, fb, v', fd.take (keepN fy fd.length st), keepN fy fd.length st⟩).map FE.pf = setP fs (ofL x, fd.take (keepN fy fd.length st), keepN fy fd.length st) := by rw [setF_pf, HX.out.2.1]; rfl
          have HC := Lib.hid (And.intro hcut.1 (And.intro hcut.2 (And.intro hfo hpf)))
          have HO9 := Lib.hid (HOY.out.go g2 (HOY.out.ne (HMY.out.fil _ (atF_mem HX.out.2.2.2.1).1).1))
          clear bx2 ox2 hv2 g2 hcut hkl hfo hpf
          go_wp2
          go_roundw
          case rel =>
            have h1 := HRR.out
            rw [if_neg HS.out, HST.out, HX.out.2.2.2.2.2.2.2] at h1
            exact ⟨t + 1, tl + 1, _, O3, by omega, by omega, by go_num, by go_num, ⟨HX.out.2.2.1.mk2 HC.out.2.2.1 HX.out.2.2.1.arm0 HX.out.2.2.1.arm1 _ _, mb, _, HC.out.1, HC.out.2.2.2⟩, HGY.out.trans HC.out.2.1, HRY.out.go HC.out.2.1, HO9.out, fun y hy => atP_set_some _ ⟨_, HX.out.2.2.2.2.1⟩ (HDK.out.2.2.2.1 y hy), h1⟩
          case measure => simp [intOf]; omega
        · have i1 : ¬ (tl : Int) < (nc : Int) := by omega
          have hst : cuts.getD tl 0 = 0 := by rw [List.getD_eq_getElem?_getD, List.getElem?_eq_none (by rw [← HNC.out]; omega)]; rfl
          have HST := Lib.hid hst
          clear hst
          go_wp2_with fail
          refine (cut_any (b := fb) (syn := fy) (v := .slice af nf kf) (dat := fd) (st := 0) (HMY.out.fil _ (atF_mem HX.out.2.2.2.1).1).1 (HMY.out.fil _ (atF_mem HX.out.2.2.2.1).1).2.1 (by rw [← HX.out.2.2.2.2.2.2.2]; exact HSY.out) (by rw [← HX.out.2.2.2.2.2.2.2]; exact hlen2) (fun g hg => (HMY.out.neDat (atF_mem HX.out.2.2.2.1).1 hg).2.2 _ (atF_mem HX.out.2.2.2.1).1)).mono ?_
          rintro e Y2 ⟨rfl, v', bx2, ox2, hv2, g2⟩
          have hcut := cut_dsk (f := ⟨ofL x, fb, .slice af nf kf, fd, fy⟩) HMY.out HX.out.2.2.2.1 bx2 ox2 hv2 g2
          obtain ⟨O3, hcut⟩ := hcut
          have hkl := keepN_le (syn := fy) (len := fd.length) (by rw [← HX.out.2.2.2.2.2.2.2]; exact HSY.out) 0
          have hfo : FsOk d.cap (setP fs (ofL x, fd.take (keepN fy fd.length 0), keepN fy fd.length 0)) := fsOk_set (d := ⟨fs, d.cap, d.arm, d.down, d.c⟩) HX.out.2.2.1 HX.out.2.2.2.2.1 (by have h1 := HX.out.2.2.1.tot; have h2 := HX.out.2.2.1.cap0; simp only at h1 h2 ⊢; rw [List.length_take]; omega) (by rw [List.length_take]; omega)
          have hpf : (setF fl ⟨ofL x, fb, v', fd.take (keepN fy fd.length 0), keepN fy fd.length 0⟩).map FE.pf = setP fs (ofL x, fd.take (keepN fy fd.length 0), keepN fy fd.length 0) := by rw [setF_pf, HX.out.2.1]; rfl
          have HC := Lib.hid (And.intro hcut.1 (And.intro hcut.2 (And.intro hfo hpf)))
          have HO9 := Lib.hid (HOY.out.go g2 (HOY.out.ne (HMY.out.fil _ (atF_mem HX.out.2.2.2.1).1).1))
          clear bx2 ox2 hv2 g2 hcut hkl hfo hpf
          go_wp2
          go_roundw
          case rel =>
            have h1 := HRR.out
            rw [if_neg HS.out, HST.out, HX.out.2.2.2.2.2.2.2] at h1
            exact ⟨t + 1, tl + 1, _, O3, by omega, by omega, by go_num, by go_num, ⟨HX.out.2.2.1.mk2 HC.out.2.2.1 HX.out.2.2.1.arm0 HX.out.2.2.1.arm1 _ _, mb, _, HC.out.1, HC.out.2.2.2⟩, HGY.out.trans HC.out.2.1, HRY.out.go HC.out.2.1, HO9.out, fun y hy => atP_set_some _ ⟨_, HX.out.2.2.2.2.1⟩ (HDK.out.2.2.2.1 y hy), h1⟩
          case measure => simp [intOf]; omega
    · have j1 : (nl : Int) ≤ (t : Int) := by omega
      have hend : L.drop t = [] := by rw [List.drop_eq_nil_iff]; have := HOWN.out.1; omega
      have HEND := Lib.hid hend
      clear hend hlt
      have hd5 := HDK.out.1
      unfold Dsk at hd5
      have hd6 := hd5.2
      obtain ⟨mb, hd6⟩ := hd6
      obtain ⟨fl, hd6⟩ := hd6
      have hM := hd6.1
      have hfs := hd6.2
      have z3 := hM.box.fz 3
      have z2 := hM.box.fz 2
      have c3 := hM.box.cells.2.2.2.1
      have c2 := hM.box.cells.2.2.1
      simp only at c3 c2
      have hM2 := (hM.setDown false).setArm 0
      have gM2 : Go4 wr ((wr.setCell ⟨dB, 3, none⟩ (.bool false)).setCell ⟨dB, 2, none⟩ (.int .i64 0)) O2 O2 := (Go4.of_set (a := ⟨dB, 3, none⟩) hM.odb _).trans (Go4.of_set (a := ⟨dB, 2, none⟩) hM.odb _)
      have HF := Lib.hid (And.intro hM2 (And.intro gM2 (And.intro hd5.1 hfs)))
      clear hM hfs hd5 hd6 hM2 gM2
      go_wp2
      go_ret
      have hRR := HDK.out.2.2.2.2
      rw [HEND.out] at hRR
      have r1 : R = (tl, fs) := hRR
      rw [r1]
      refine ⟨rfl, O2, ⟨HF.out.2.2.1.mk2 HF.out.2.2.1.fs (by omega) (by omega) _ _, mb, fl, HF.out.1, HF.out.2.2.2⟩, HDK.out.2.1.trans HF.out.2.1⟩
end Go.Proofs.Ytbheifelfeekmaa

namespace Go.Proofs.Ytbheifelfeekmaa
open Go.RowKit Go.MapKept Go.Sort
set_option linter.unusedVariables false
set_option linter.unusedSimpArgs false
variable {w w' W X : World} {O O' : Nat → Prop} {dB : Nat} {d : Dk4}
structure RdF4 (w : World) (a : Option Addr) (k : Nat) (l : List (PF × Value)) : Prop where
  cap : l.length ≤ k ∧ k ≤ maxLen
  cel : ∀ i x, l[i]? = some x → ∃ g off, a = some ⟨g, off, none⟩ ∧ w.cell? ⟨g, off + i * 3, none⟩ = some (.string x.1.1) ∧ w.cell? ⟨g, off + i * 3 + 1, none⟩ = some x.2 ∧ w.cell? ⟨g, off + i * 3 + 2, none⟩ = some (.int .i64 (x.1.2.2 : Int))
  dat : ∀ x ∈ l, ∃ ap cp, x.2 = .slice ap x.1.2.1.length cp ∧ Rd w x.2 x.1.2.1
theorem RdF4.later {a : Option Addr} {k : Nat} {l : List (PF × Value)} (h : RdF4 w a k l) (b : Below w.heap.size w w') : RdF4 w' a k l := by
  refine ⟨h.cap, fun i x hx => ?_, fun x hx => ?_⟩
  · obtain ⟨g, off, e, h0, h1, h2⟩ := h.cel i x hx
    exact ⟨g, off, e, (b.cell (p := ⟨g, _, none⟩) (World.block_lt_of_cell? _ _ h0)).trans h0, (b.cell (p := ⟨g, _, none⟩) (World.block_lt_of_cell? _ _ h1)).trans h1, (b.cell (p := ⟨g, _, none⟩) (World.block_lt_of_cell? _ _ h2)).trans h2⟩
  · obtain ⟨ap, cp, e, hr⟩ := h.dat x hx
    exact ⟨ap, cp, e, hr.later b⟩
theorem fCells_at : ∀ (l : List (PF × Value)) (i : Nat) (x : PF × Value), l[i]? = some x → (fCells l)[i * 3]? = some (.string x.1.1) ∧ (fCells l)[i * 3 + 1]? = some x.2 ∧ (fCells l)[i * 3 + 2]? = some (.int .i64 (x.1.2.2 : Int))
  | y :: ys, 0, x, h => by
    simp at h
    subst h
    exact ⟨rfl, rfl, rfl⟩
  | y :: ys, i + 1, x, h => by
    have := fCells_at ys i x (by simpa using h)
    have e0 : (i + 1) * 3 = i * 3 + 3 := by omega
    rw [e0]
    simpa [fCells] using this
theorem FLs.rd {B n k : Nat} {a : Option Addr} {l : List (PF × Value)} (h : FLs w B (.slice a n k) n l) (hl : ∀ x ∈ l, x.1.2.1.length ≤ 281474976710656) : n = l.length ∧ RdF4 w a k l := by
  refine ⟨h.len, ?_⟩
  have hd : ∀ x ∈ l, ∃ ap cp, x.2 = .slice ap x.1.2.1.length cp ∧ Rd w x.2 x.1.2.1 := fun x hx => by
    obtain ⟨ap, cp, e⟩ := (h.dat x hx).form
    exact ⟨ap, cp, e, (h.dat x hx).rd (hl x hx)⟩
  have hlen := h.len
  rcases h.row.2 with ⟨h1, h2⟩ | ⟨g, cap, cur, h1, h2, h3, h4, h5, h6, h7⟩
  · simp only [Value.slice.injEq] at h1
    obtain ⟨rfl, _, rfl⟩ := h1
    have : l = [] := List.eq_nil_of_length_eq_zero (by omega)
    subst this
    exact ⟨⟨by simp, by decide⟩, fun i x hx => by simp at hx, hd⟩
  · simp only [Value.slice.injEq] at h1
    obtain ⟨rfl, _, rfl⟩ := h1
    refine ⟨⟨by omega, h5⟩, fun i x hx => ⟨g, 0, rfl, ?_⟩, hd⟩
    have hi := (List.getElem?_eq_some_iff.1 hx).1
    have c := fCells_at l i x hx
    have key : ∀ (j : Nat) (u : Value), (fCells l)[j]? = some u → w.cell? ⟨g, 0 + j, none⟩ = some u := fun j u hu => by
      have hj := (List.getElem?_eq_some_iff.1 hu).1
      rw [fCells_len] at hj
      rw [← h7, List.getElem?_take_of_lt (by omega)] at hu
      simp only [World.cell?, h3, Nat.zero_add]
      simpa using hu
    exact ⟨key _ _ c.1, key _ _ c.2.1, key _ _ c.2.2⟩
set_option maxRecDepth 100000 in
set_option maxHeartbeats 4000000 in
theorem find4_any {a : Option Addr} {n k j : Nat} {l : List (PF × Value)} {x : PF × Value} (hr : RdF4 w a k l) (hn : n = l.length) (hj : l[j]? = some x) (hne : ∀ i y, i < j → l[i]? = some y → y.1.1 ≠ x.1.1) :
    Calls Try.prog 25 #[.slice a n k, .string x.1.1] w fun e w' => e = .returned (.tuple #[.agg #[.string x.1.1, x.2, .int .i64 (x.1.2.2 : Int)], .bool true]) ∧ Below w.heap.size w w' := by
  obtain ⟨⟨nm, dat, syn⟩, vx⟩ := x
  simp only at *
  have hnx : n ≤ 9223372036854775807 := by have := hr.cap; unfold maxLen at this; omega
  have hjn : j < n := by rw [hn]; exact (List.getElem?_eq_some_iff.1 hj).1
  have hform := hr.dat _ (List.mem_of_getElem? hj)
  simp only at hform
  obtain ⟨ap, hform⟩ := hform
  obtain ⟨cp, hform⟩ := hform
  have hvx := hform.1
  obtain ⟨m, hm⟩ : ∃ m, m = dat.length := ⟨_, rfl⟩
  rw [← hm] at hvx
  subst hvx
  have hcj := hr.cel j _ hj
  obtain ⟨g, hcj⟩ := hcj
  obtain ⟨off, hcj⟩ := hcj
  have hag := hcj.1
  have hc2 := hcj.2
  simp only at hc2
  subst hag
  have HC := Lib.hid hc2
  have HR := Lib.hid hr
  have HN := Lib.hid (And.intro hn (And.intro hj hne))
  have lg := World.block_lt_of_cell? _ _ hc2.1
  simp only at lg
  clear hr hn hj hne hform hm hcj hc2
  go_enter Try.func25, Try.ntmps25
  go_wp2
  have b0 := (Below.refl w.heap.size w).alloc (Nat.le_refl _) (.cells #[.string ⟨#[]⟩, .slice none 0 0, .int .i64 0] 50)
  have hW : ∃ W, W = w.alloc (.cells #[.string ⟨#[]⟩, .slice none 0 0, .int .i64 0] 50) := ⟨_, rfl⟩
  have hat : (w.alloc (.cells #[.string ⟨#[]⟩, .slice none 0 0, .int .i64 0] 50)).heap[w.heap.size]? = some (.cells #[.string ⟨#[]⟩, .slice none 0 0, .int .i64 0] 50) := heap_alloc_new _ _
  obtain ⟨W, hW⟩ := hW
  rw [← hW] at b0 hat ⊢
  obtain ⟨xb, hxb⟩ : ∃ xb, xb = w.heap.size := ⟨_, rfl⟩
  rw [← hxb] at hat ⊢
  have HB := Lib.hid b0
  have HAT := Lib.hid hat
  have HXB := Lib.hid hxb
  clear hW b0 hat hxb
  go_loopw [6] (fun i wr => ∃ t : Nat, t ≤ j ∧ i = .int .i64 (t : Int) ∧ wr = W) (fun i _ => n - (intOf i).toNat)
  case atStart => exact ⟨0, Nat.zero_le _, rfl, rfl⟩
  case round =>
    obtain ⟨t, ht, rfl, rfl⟩ := hrel
    have j1 : (t : Int) < (n : Int) := by omega
    have j2 : (0 : Int) ≤ (t : Int) := by omega
    have hy : ∃ y, l[t]? = some y := ⟨_, List.getElem?_eq_getElem (by rw [← HN.out.1]; omega)⟩
    obtain ⟨y, hy⟩ := hy
    have hcy := (HR.out.later HB.out).cel t y hy
    obtain ⟨g2, hcy⟩ := hcy
    obtain ⟨off2, hcy⟩ := hcy
    have e2 := hcy.1
    simp only [Option.some.injEq, Addr.mk.injEq, and_true] at e2
    have hc0 := hcy.2.1
    rw [← e2.1, ← e2.2] at hc0
    obtain ⟨yn, hyn⟩ : ∃ yn, yn = y.1.1 := ⟨_, rfl⟩
    rw [← hyn] at hc0
    have HYN := Lib.hid hyn
    have HY := Lib.hid hy
    clear hcy e2 hyn hy
    by_cases htj : t < j
    · have hne : yn ≠ nm := by rw [HYN.out]; exact HN.out.2.2 t y htj HY.out
      have hne2 : (yn.toList == nm.toList) = false := by
        rw [ByteArray.toList_eq, ByteArray.toList_eq]
        simp only [beq_eq_false_iff_ne, ne_eq]
        intro e
        exact hne (ByteArray.ext (Array.toList_inj.1 e))
      have HNE := Lib.hid hne
      clear hne
      go_wp2
      go_roundw
      case rel => exact ⟨t + 1, by omega, by go_num, trivial⟩
      case measure => simp [intOf]; omega
    · have htj2 : t = j := by omega
      subst htj2
      have hynm : yn = nm := by
        have h1 := HY.out
        rw [HN.out.2.1] at h1
        cases h1
        exact HYN.out
      subst hynm
      have q0 := (HB.out.cell (p := ⟨g, off + t * 3, none⟩) lg).trans HC.out.1
      have q1 := (HB.out.cell (p := ⟨g, off + t * 3 + 1, none⟩) lg).trans HC.out.2.1
      have q2 := (HB.out.cell (p := ⟨g, off + t * 3 + 2, none⟩) lg).trans HC.out.2.2
      have x0 : wr.cell? ⟨xb, 0, none⟩ = some (.string ⟨#[]⟩) ∧ wr.cell? ⟨xb, 1, none⟩ = some (.slice none 0 0) ∧ wr.cell? ⟨xb, 2, none⟩ = some (.int .i64 0) := by
        simp [World.cell?, HAT.out]
      have x1 : ∀ i, wr.frozen? ⟨xb, i, none⟩ = false := fun i => by simp [World.frozen?, HAT.out]
      obtain ⟨x00, x01, x02⟩ := x0
      have f0 := x1 0
      have f1 := x1 1
      have f2 := x1 2
      have ngx : g ≠ xb := by have := HXB.out; omega
      have nxg : xb ≠ g := Ne.symm ngx
      clear htj hc0 x1
      go_wp2
      have v0 : (((wr.setCell ⟨xb, 0, none⟩ (.string yn)).setCell ⟨xb, 1, none⟩ (.slice ap m cp)).setCell ⟨xb, 2, none⟩ (.int .i64 (syn : Int))).cell? ⟨xb, 0, none⟩ = some (.string yn) := by simp [go_sem, x00, x01, x02]
      have v1 : (((wr.setCell ⟨xb, 0, none⟩ (.string yn)).setCell ⟨xb, 1, none⟩ (.slice ap m cp)).setCell ⟨xb, 2, none⟩ (.int .i64 (syn : Int))).cell? ⟨xb, 1, none⟩ = some (.slice ap m cp) := by simp [go_sem, x00, x01, x02]
      have v2 : (((wr.setCell ⟨xb, 0, none⟩ (.string yn)).setCell ⟨xb, 1, none⟩ (.slice ap m cp)).setCell ⟨xb, 2, none⟩ (.int .i64 (syn : Int))).cell? ⟨xb, 2, none⟩ = some (.int .i64 (syn : Int)) := by simp [go_sem, x00, x01, x02]
      have bv : Below w.heap.size w (((wr.setCell ⟨xb, 0, none⟩ (.string yn)).setCell ⟨xb, 1, none⟩ (.slice ap m cp)).setCell ⟨xb, 2, none⟩ (.int .i64 (syn : Int))) := by
        have h := HXB.out
        exact ((HB.out.setCell (p := ⟨xb, 0, none⟩) (by simp only; omega) _).setCell (p := ⟨xb, 1, none⟩) (by simp only; omega) _).setCell (p := ⟨xb, 2, none⟩) (by simp only; omega) _
      have hV : ∃ V, V = (((wr.setCell ⟨xb, 0, none⟩ (.string yn)).setCell ⟨xb, 1, none⟩ (.slice ap m cp)).setCell ⟨xb, 2, none⟩ (.int .i64 (syn : Int))) := ⟨_, rfl⟩
      obtain ⟨V, hV⟩ := hV
      rw [← hV] at v0 v1 v2 bv ⊢
      clear hV
      refine bodyPost_ret (v := .tuple #[.agg #[.string yn, .slice ap m cp, .int .i64 (syn : Int)], .bool true]) ?_ rfl ⟨rfl, bv⟩
      simp [results, Try.results25, go_sem, v0, v1, v2]
end Go.Proofs.Ytbheifelfeekmaa

namespace Go.Proofs.Ytbheifelfeekmaa
open Go.RowKit Go.MapKept Go.Sort
set_option linter.unusedVariables false
set_option linter.unusedSimpArgs false
variable {w w' W X : World} {O O' : Nat → Prop} {dB : Nat} {d : Dk4}
def readD (d : Dk4) (s : ByteArray) (x y : Int) : Int × List Nat :=
  if reaE d s ≠ 0 then (reaE d s, [])
  else if x < 0 ∨ y < 0 ∨ ((((atP d.fs s).getD ([], 0)).1.length : Nat) : Int) < x ∨ ((((atP d.fs s).getD ([], 0)).1.length : Nat) : Int) - x < y then (43, [])
  else (0, (((atP d.fs s).getD ([], 0)).1.drop x.toNat).take y.toNat)
def Dk4.red (d : Dk4) (b : Bool) : Dk4 := if b = true then { d with c := setCt d.c 5 (wrap64 (d.c 5 + 1)) } else d
theorem Rd.mid {w : World} {a : Option Addr} {n cap : Nat} {bs : List Nat} (h : Rd w (.slice a n cap) bs) (i m : Nat) (hm : i + m ≤ n) : Rd w (.slice (if cap = i then a else a.map (fun x => x.add i)) m (cap - i)) ((bs.drop i).take m) := by
  obtain ⟨h1, a0, cap0, h2, h3, h4, h5, h6, h7⟩ := h
  simp only [Value.slice.injEq] at h2
  obtain ⟨rfl, rfl, rfl⟩ := h2
  have hl : ((bs.drop i).take m).length = m := by rw [List.length_take, List.length_drop]; omega
  have ha : ∀ b off, (⟨b, off, none⟩ : Addr).add i = ⟨b, off + i, none⟩ := fun b off => by unfold Addr.add; split <;> simp_all
  refine ⟨fun x hx => h1 x (List.mem_of_mem_drop (List.mem_of_mem_take hx)), _, cap - i, by rw [hl], by rw [hl]; omega, Nat.le_trans (Nat.sub_le _ _) h4, by rw [hl]; omega, ?_, ?_⟩
  · by_cases hc : cap = i
    · exact .inl (by omega)
    · rcases h6 with h6 | ⟨b, off, rfl⟩
      · exact .inl (by omega)
      · exact .inr ⟨b, off + i, by rw [if_neg hc, Option.map_some, ha]⟩
  · by_cases hm0 : m = 0
    · exact .inl (by rw [hm0]; simp)
    rcases h7 with rfl | ⟨b, off, rfl, hc⟩
    · exact absurd hm (by simp; omega)
    · refine .inr ⟨b, off + i, by rw [if_neg (by omega), Option.map_some, ha], fun k hk => ?_⟩
      rw [hl] at hk
      rw [Nat.add_assoc, hc (i + k) (by omega)]
      simp [List.getD_eq_getElem?_getD, List.getElem?_take_of_lt hk]
set_option maxRecDepth 100000 in
set_option maxHeartbeats 4000000 in
theorem read_any {s : ByteArray} {x y : Int} (hD : Dsk w O dB d) (hx : x ≤ 9223372036854775807) (hy : y ≤ 9223372036854775807) : Calls Try.prog 12 #[.pointer (some ⟨dB, 0, none⟩), .string s, .int .i64 x, .int .i64 y] w fun e w' =>
    ∃ v, e = .returned (.tuple #[v, .int .i64 (readD d s x y).1]) ∧ w'.ownsRow w.heap.size 5 1 v (readD d s x y).2.length (bv (readD d s x y).2) ∧ Dsk w' O dB (d.red (decide ((readD d s x y).1 = 0))) ∧ Go4 w w' O O := by
  have HD := Lib.hid hD
  obtain ⟨ok, mb, fl, hM, hfl⟩ := hD
  obtain ⟨es, clock, hm⟩ := hM.map
  obtain ⟨R, hR⟩ : ∃ R, R = readD d s x y := ⟨_, rfl⟩
  rw [← hR]
  unfold readD at hR
  have HRC := Lib.hid (reach_any hM.box hm s)
  obtain ⟨rp, hrp⟩ : ∃ rp, rp = ptrO (reaN d.down (fl.map fun f => (f.nm, f.b)) s).1 := ⟨_, rfl⟩
  obtain ⟨rc, hrc⟩ : ∃ rc, rc = (reaN d.down (fl.map fun f => (f.nm, f.b)) s).2 := ⟨_, rfl⟩
  rw [← hrp, ← hrc] at HRC
  have hrc2 : rc = reaE d s := hrc.trans (reaN_eq hfl)
  rw [← hrc2] at hR
  have HRR := Lib.hid hR
  have HRP := Lib.hid (And.intro hrp hrc2)
  have HM := Lib.hid (And.intro hM (And.intro ok hfl))
  clear hrp hrc hrc2 hm hM hfl ok hR
  go_enter Try.func12, Try.ntmps12
  go_wp2_with fail
  refine HRC.out.mono ?_
  rintro e w2 ⟨rfl, b2⟩
  have HB2 := Lib.hid b2
  clear b2 HRC
  by_cases h0 : rc = 0
  · have hR := HRR.out
    rw [if_neg (by simp [h0])] at hR
    obtain ⟨hr, f, hf, hp, ha⟩ := reaN_ok (s := s) HM.out.2.2 (HRP.out.2.symm.trans h0)
    rw [ha] at hR
    simp only [Option.getD_some] at hR
    have hrp : rp = .pointer (some ⟨f.b, 0, none⟩) := by rw [HRP.out.1]; unfold ptrO; exact congrArg (fun o => Value.pointer (Option.map (fun b => (⟨b, 0, none⟩ : Addr)) o)) hp
    subst hrp
    have M2 := HM.out.1.below HB2.out
    have hfil := M2.fil f (atF_mem hf).1
    obtain ⟨a, c, hv⟩ := hfil.2.1.form
    have bx0 := hfil.1
    rw [hv] at bx0
    have hl : f.dat.length ≤ 67108864 := by
      have h1 := totP_mem ha
      have h2 := HM.out.2.1.tot
      have h3 := HM.out.2.1.cap1
      simp only at h1
      omega
    obtain ⟨n, hn⟩ : ∃ n, n = f.dat.length := ⟨_, rfl⟩
    rw [← hn] at bx0 hR hv hl
    have c0 := bx0.cells.1
    have HF := Lib.hid (And.intro hfil (And.intro hv hn))
    have HF2 := Lib.hid (And.intro hf (And.intro hp ha))
    have HR := Lib.hid hR
    have HM2 := Lib.hid M2
    clear hfil hv hn hf hp ha hR M2 hr HRP HRR
    subst h0
    by_cases x0 : x < 0
    · have hR := HR.out
      rw [if_pos (.inl x0)] at hR
      subst hR
      go_wp2
      go_ret2
      exact ⟨_, rfl, World.ownsRow_nil .., HD.out.below HB2.out, Go4.of_below HB2.out⟩
    by_cases y0 : y < 0
    · have hR := HR.out
      rw [if_pos (.inr (.inl y0))] at hR
      subst hR
      go_wp2
      go_ret2
      exact ⟨_, rfl, World.ownsRow_nil .., HD.out.below HB2.out, Go4.of_below HB2.out⟩
    by_cases x1 : (n : Int) < x
    · have hR := HR.out
      rw [if_pos (.inr (.inr (.inl x1)))] at hR
      subst hR
      go_wp2
      go_ret2
      exact ⟨_, rfl, World.ownsRow_nil .., HD.out.below HB2.out, Go4.of_below HB2.out⟩
    by_cases y1 : (n : Int) - x < y
    · have hR := HR.out
      rw [if_pos (.inr (.inr (.inr y1)))] at hR
      subst hR
      go_wp2
      go_ret2
      exact ⟨_, rfl, World.ownsRow_nil .., HD.out.below HB2.out, Go4.of_below HB2.out⟩
    have hR := HR.out
    rw [if_neg (by omega)] at hR
    subst hR
    obtain ⟨i, rfl⟩ : ∃ i : Nat, x = i := ⟨x.toNat, by omega⟩
    obtain ⟨m, rfl⟩ : ∃ m : Nat, y = m := ⟨y.toNat, by omega⟩
    have him : i + m ≤ n := by omega
    have hrd := (HF.out.1.2.1.rd (by have := HF.out.2.2; omega))
    rw [HF.out.2.1] at hrd
    have hnc : n ≤ c := by
      obtain ⟨_, a1, c1, h2, h3, _⟩ := hrd
      simp only [Value.slice.injEq] at h2
      obtain ⟨_, rfl, rfl⟩ := h2
      exact h3
    clear hrd
    have M3 : Hid (DskM (w2.setCell ⟨dB, 9, none⟩ (.int .i64 (wrap64 (d.c 5 + 1)))) O dB mb fl d.cap d.arm d.down (setCt d.c 5 (wrap64 (d.c 5 + 1)))) := Lib.hid (HM2.out.setCt 5 (by decide) _)
    have HOK2 := Lib.hid (HM.out.2.1.mk2 HM.out.2.1.fs HM.out.2.1.arm0 HM.out.2.1.arm1 d.down (setCt d.c 5 (wrap64 (d.c 5 + 1))))
    have hrd := ((M3.out.fil f (atF_mem HF2.out.1).1).2.1.rd (by have := HF.out.2.2; omega))
    rw [HF.out.2.1] at hrd
    have HRD := Lib.hid (hrd.mid i m him)
    have hic : i + m ≤ c := by omega
    have hl2 : ((f.dat.drop i).take m).length = m := by rw [List.length_take, List.length_drop]; have := HF.out.2.2; omega
    have HL2 := Lib.hid hl2
    clear hrd hl2
    have BX := HM2.out.box
    have c9 := BX.cells.2.2.2.2.2.2.2.2.2
    have z9 := BX.fz 9
    clear BX
    by_cases hci : c = i
    · rw [if_pos hci] at HRD
      subst hci
      obtain rfl : m = 0 := by omega
      rw [Nat.sub_self] at HRD
      go_wp2_with fail
      refine (bclone_any HRD.out (by rw [HL2.out]; omega)).mono ?_
      rintro e w4 ⟨v, rfl, hv, b4⟩
      have HV := Lib.hid (And.intro hv b4)
      clear hv b4
      go_wp2
      go_ret2
      refine ⟨v, rfl, ?_, ?_, ?_⟩
      · have hq := ownsRow_less (B' := w.heap.size) HV.out.1 (by have := HB2.out.size; simp [World.setCell]; omega)
        first | exact hq | (simp only [List.length_take, List.length_drop] at hq; exact hq) | (simp at hq ⊢; exact hq)
      · exact ⟨HOK2.out, mb, fl, M3.out.below HV.out.2, HM.out.2.2⟩
      · exact (Go4.of_below HB2.out).trans ((Go4.of_set HM2.out.odb _).trans (Go4.of_below HV.out.2))
    · rw [if_neg hci] at HRD
      go_wp2_with fail
      refine (bclone_any HRD.out (by rw [HL2.out]; omega)).mono ?_
      rintro e w4 ⟨v, rfl, hv, b4⟩
      have HV := Lib.hid (And.intro hv b4)
      clear hv b4
      go_wp2
      go_ret2
      refine ⟨v, rfl, ?_, ?_, ?_⟩
      · have hq := ownsRow_less (B' := w.heap.size) HV.out.1 (by have := HB2.out.size; simp [World.setCell]; omega)
        first | exact hq | (simp only [List.length_take, List.length_drop] at hq; exact hq) | (simp at hq ⊢; exact hq)
      · exact ⟨HOK2.out, mb, fl, M3.out.below HV.out.2, HM.out.2.2⟩
      · exact (Go4.of_below HB2.out).trans ((Go4.of_set HM2.out.odb _).trans (Go4.of_below HV.out.2))
  · have hR := HRR.out
    rw [if_pos h0] at hR
    have HR := Lib.hid hR
    clear hR HRR
    go_wp2
    go_ret2
    have hR := HR.out
    subst hR
    refine ⟨_, rfl, World.ownsRow_nil .., ?_, Go4.of_below HB2.out⟩
    have hd : decide (rc = 0) = false := decide_eq_false h0
    simp only [hd]
    exact HD.out.below HB2.out
end Go.Proofs.Ytbheifelfeekmaa

namespace Go.Proofs.Ytbheifelfeekmaa
open Go.RowKit Go.MapKept
set_option linter.unusedVariables false
set_option linter.unusedSimpArgs false

theorem und_vmap : Try.prog.underlying 60 = some (.map 9 29) := by kernel_rfl
theorem zero_vmap (w : World) : (zeroValue 29).run Try.prog w = .ok (.slice none 0 0) w := by kernel_rfl
def atV : List (ByteArray × Value) → ByteArray → Option Value
  | [], _ => none
  | f :: fs, s => if f.1 = s then some f.2 else atV fs s
def setV4 : List (ByteArray × Value) → ByteArray → Value → List (ByteArray × Value)
  | [], s, b => [(s, b)]
  | f :: fs, s, b => if f.1 = s then (s, b) :: fs else f :: setV4 fs s b
def delV : List (ByteArray × Value) → ByteArray → List (ByteArray × Value)
  | [], _ => []
  | f :: fs, s => if f.1 = s then fs else f :: delV fs s
theorem atV_none {s : ByteArray} : ∀ {fs : List (ByteArray × Value)}, (∀ f ∈ fs, f.1 ≠ s) → atV fs s = none
  | [], _ => rfl
  | f :: fs, h => by
    rw [atV, if_neg (h f (by simp))]
    exact atV_none (fun g hg => h g (by simp [hg]))
theorem atV_some {s : ByteArray} {b : Value} : ∀ {fs : List (ByteArray × Value)}, (fs.map (·.1)).Nodup → (s, b) ∈ fs → atV fs s = some b
  | f :: fs, hn, hm => by
    rw [List.map_cons, List.nodup_cons] at hn
    rcases List.mem_cons.1 hm with e | e
    · subst e; rw [atV, if_pos rfl]
    · rw [atV, if_neg (fun e2 => hn.1 (by rw [e2]; exact List.mem_map.2 ⟨_, e, rfl⟩))]
      exact atV_some hn.2 e
theorem setV4_new {s : ByteArray} {b : Value} : ∀ {fs : List (ByteArray × Value)}, (∀ f ∈ fs, f.1 ≠ s) → setV4 fs s b = fs ++ [(s, b)]
  | [], _ => rfl
  | f :: fs, h => by
    rw [setV4, if_neg (h f (by simp)), setV4_new (fun g hg => h g (by simp [hg]))]
    rfl
theorem setV4_at {s : ByteArray} {b : Value} : ∀ {fs : List (ByteArray × Value)} {i : Nat} {f : ByteArray × Value}, (fs.map (·.1)).Nodup → fs[i]? = some f → f.1 = s → setV4 fs s b = fs.set i (s, b)
  | g :: fs, 0, f, _, hf, he => by
    simp at hf
    subst hf
    rw [setV4, if_pos he]
    rfl
  | g :: fs, i + 1, f, hn, hf, he => by
    rw [List.map_cons, List.nodup_cons] at hn
    simp at hf
    rw [setV4, if_neg (fun e => hn.1 (by rw [e, ← he]; exact List.mem_map.2 ⟨_, List.mem_of_getElem? hf, rfl⟩)), setV4_at hn.2 hf he]
    rfl
theorem delV_none {s : ByteArray} : ∀ {fs : List (ByteArray × Value)}, (∀ f ∈ fs, f.1 ≠ s) → delV fs s = fs
  | [], _ => rfl
  | f :: fs, h => by rw [delV, if_neg (h f (by simp)), delV_none (fun g hg => h g (by simp [hg]))]
theorem delV_at {s : ByteArray} : ∀ {fs : List (ByteArray × Value)} {i : Nat} {f : ByteArray × Value}, (fs.map (·.1)).Nodup → fs[i]? = some f → f.1 = s → delV fs s = fs.eraseIdx i
  | g :: fs, 0, f, _, hf, he => by
    simp at hf
    subst hf
    rw [delV, if_pos he]
    rfl
  | g :: fs, i + 1, f, hn, hf, he => by
    rw [List.map_cons, List.nodup_cons] at hn
    simp at hf
    rw [delV, if_neg (fun e => hn.1 (by rw [e, ← he]; exact List.mem_map.2 ⟨_, List.mem_of_getElem? hf, rfl⟩)), delV_at hn.2 hf he]
    rfl
def entV (f : ByteArray × Value) : Value × Value := (.string f.1, f.2)
structure MpV (w : World) (mb : Nat) (fs : List (ByteArray × Value)) (es : Array MapEntry) (clock : Nat) : Prop where
  blk : w.heap[mb]? = some (.map es clock)
  st : Stamped es clock
  ent : es.toList.map (fun e => (e.key, e.val)) = fs.map entV
variable {w w' : World} {mb clock : Nat} {fs : List (ByteArray × Value)} {es : Array MapEntry}
theorem MpV.lt (h : MpV w mb fs es clock) : mb < w.heap.size := (Array.getElem?_eq_some_iff.1 h.blk).1
theorem MpV.kept (h : MpV w mb fs es clock) (k : w'.heap[mb]? = w.heap[mb]?) : MpV w' mb fs es clock := ⟨k.trans h.blk, h.st, h.ent⟩
theorem MpV.len (h : MpV w mb fs es clock) : es.size = fs.length := by
  have := congrArg List.length h.ent
  simpa using this
theorem MpV.mem (h : MpV w mb fs es clock) {x : MapEntry} (hx : x ∈ es.toList) : ∃ f ∈ fs, x.key = .string f.1 ∧ x.val = f.2 := by
  have : (x.key, x.val) ∈ fs.map entV := by rw [← h.ent]; exact List.mem_map.2 ⟨x, hx, rfl⟩
  obtain ⟨f, hf, e⟩ := List.mem_map.1 this
  unfold entV at e
  exact ⟨f, hf, (congrArg Prod.fst e).symm, (congrArg Prod.snd e).symm⟩
theorem MpV.nodup (h : MpV w mb fs es clock) : (fs.map (·.1)).Nodup := by
  have e : es.toList.map (·.key) = fs.map (fun f => Value.string f.1) := by
    have := congrArg (List.map Prod.fst) h.ent
    simpa [List.map_map, entV, Function.comp_def] using this
  have n := h.st.2.2
  rw [e] at n
  have : (fs.map (fun f => Value.string f.1)) = (fs.map (·.1)).map Value.string := by simp
  rw [this, List.Nodup, List.pairwise_map] at n
  exact n.imp (fun h e => h (congrArg _ e))
theorem MpV.keys (h : MpV w mb fs es clock) : ∀ x ∈ es.toList, IsKey .string x.key := fun x hx => by
  obtain ⟨f, -, e, -⟩ := h.mem hx
  rw [e]
  exact trivial
theorem MpV.ne (h : MpV w mb fs es clock) {s : ByteArray} (h2 : ∀ x ∈ es.toList, x.key ≠ .string s) : ∀ f ∈ fs, f.1 ≠ s := fun f hf e => by
  have : entV f ∈ es.toList.map (fun e => (e.key, e.val)) := by rw [h.ent]; exact List.mem_map.2 ⟨f, hf, rfl⟩
  obtain ⟨x, hx, ex⟩ := List.mem_map.1 this
  refine h2 x hx ?_
  have := congrArg Prod.fst ex
  simp only [entV] at this
  rw [this, e]
theorem MpV.look (h : MpV w mb fs es clock) (s : ByteArray) : (Instr.lookup 60 (.map (some mb)) (.string s) false).run Try.prog w = .ok ((atV fs s).getD (.slice none 0 0)) w ∧ (Instr.lookup 60 (.map (some mb)) (.string s) true).run Try.prog w = .ok (.tuple #[(atV fs s).getD (.slice none 0 0), .bool (atV fs s).isSome]) w := by
  have hk : IsKey .string (.string s) := trivial
  rcases findNow_spec hk es.toList 0 h.keys with ⟨h1, h2⟩ | ⟨j, e, h1, h2, h3⟩
  · have e0 : atV fs s = none := atV_none (h.ne h2)
    rw [e0]
    simp [Instr.lookup, run_underlying und_vmap, MapKept.run_getObj_map h.blk, run_checkKey und_str4 hk, run_findKey und_str4 h1, zero_vmap, Result.andThen]
  · have hm := List.mem_of_getElem? h2
    obtain ⟨f, hf, e1, e2⟩ := h.mem hm
    have e3 : f.1 = s := by
      rw [h3] at e1
      injection e1 with e1
      exact e1.symm
    have e0 : atV fs s = some f.2 := atV_some h.nodup (by rw [← e3]; exact hf)
    rw [e0]
    simp [Instr.lookup, run_underlying und_vmap, MapKept.run_getObj_map h.blk, run_checkKey und_str4 hk, run_findKey und_str4 h1, Result.andThen, e2]
theorem MpV.put (h : MpV w mb fs es clock) (s : ByteArray) (v : Value) : ∃ es' clock', (Instr.mapUpdate 60 (.map (some mb)) (.string s) v).run Try.prog w = .ok () (setMap w mb es' clock') ∧ MpV (setMap w mb es' clock') mb (setV4 fs s v) es' clock' := by
  have hk : IsKey .string (.string s) := trivial
  rcases findNow_spec hk es.toList 0 h.keys with ⟨h1, h2⟩ | ⟨j, e, h1, h2, h3⟩
  · refine ⟨es.push { key := .string s, val := v, born := clock }, clock + 1, ?_, setMap_at h.lt, stamped_push h.st h2, ?_⟩
    · simp [Instr.mapUpdate, run_underlying und_vmap, MapKept.run_getObj_map h.blk, run_checkKey und_str4 hk, run_findKey und_str4 h1, MapKept.run_setObj_map _ h.blk, Result.andThen, setMap]
    · rw [setV4_new (h.ne h2)]
      simp [h.ent, entV]
  · have hj : es[j]? = some e := by simpa using h2
    have hmj : (fs.map entV)[j]? = some (e.key, e.val) := by rw [← h.ent]; simp [hj]
    rw [List.getElem?_map] at hmj
    obtain ⟨f, hf, ef⟩ := Option.map_eq_some_iff.1 hmj
    have e3 : f.1 = s := by
      have := congrArg Prod.fst ef
      simp only [entV] at this
      rw [h3] at this
      injection this
    have hst := run_keyThatStays (P := Try.prog) (w := w) hk
    refine ⟨es.modify j (fun e => { e with key := .string s, val := v }), clock, ?_, setMap_at h.lt, stamped_modify h.st j _ (fun _ _ => rfl) (fun e' _ he' => by rw [hj] at he'; cases he'; exact h3.symm), ?_⟩
    · simp [Instr.mapUpdate, run_underlying und_vmap, MapKept.run_getObj_map h.blk, run_checkKey und_str4 hk, run_findKey und_str4 h1, MapKept.run_setObj_map _ h.blk, Result.andThen, setMap, hj, h3, hst]
    · rw [setV4_at h.nodup hf e3]
      apply List.ext_getElem?
      intro n
      have hn := congrArg (fun l => l[n]?) h.ent
      simp only [List.getElem?_map, Array.getElem?_toList, Array.getElem?_modify, List.getElem?_set] at hn ⊢
      by_cases hnj : j = n
      · subst hnj
        have hlt := (List.getElem?_eq_some_iff.1 hf).1
        simp [hj, hlt, entV]
      · simp only [hnj, if_false]
        exact hn
theorem MpV.del (h : MpV w mb fs es clock) (s : ByteArray) (ty : TypeId) : ∃ es', (Builtin.delete_ #[60, 9] ty #[.map (some mb), .string s]).run Try.prog w = .ok (.tuple #[]) (setMap w mb es' clock) ∧ MpV (setMap w mb es' clock) mb (delV fs s) es' clock := by
  have hk : IsKey .string (.string s) := trivial
  rcases findNow_spec hk es.toList 0 h.keys with ⟨h1, h2⟩ | ⟨j, e, h1, h2, h3⟩
  · refine ⟨es, ?_, setMap_at h.lt, h.st, ?_⟩
    · simp [Builtin.delete_, run_underlying und_vmap, MapKept.run_getObj_map h.blk, run_checkKey und_str4 hk, run_findKey und_str4 h1, MapKept.run_setObj_map _ h.blk, Result.andThen, setMap]
    · rw [delV_none (h.ne h2)]
      exact h.ent
  · have hj : es[j]? = some e := by simpa using h2
    have hmj : (fs.map entV)[j]? = some (e.key, e.val) := by rw [← h.ent]; simp [hj]
    rw [List.getElem?_map] at hmj
    obtain ⟨f, hf, ef⟩ := Option.map_eq_some_iff.1 hmj
    have e3 : f.1 = s := by
      have := congrArg Prod.fst ef
      simp only [entV] at this
      rw [h3] at this
      injection this
    have hlt : j < es.size := (Array.getElem?_eq_some_iff.1 hj).1
    refine ⟨es.eraseIdxIfInBounds j, ?_, setMap_at h.lt, stamped_erase h.st j, ?_⟩
    · simp [Builtin.delete_, run_underlying und_vmap, MapKept.run_getObj_map h.blk, run_checkKey und_str4 hk, run_findKey und_str4 h1, MapKept.run_setObj_map _ h.blk, Result.andThen, setMap]
    · rw [delV_at h.nodup hf e3]
      unfold Array.eraseIdxIfInBounds
      rw [dif_pos hlt]
      simp only [Array.toList_eraseIdx]
      rw [map_eraseIdx4, h.ent, map_eraseIdx4]
theorem MpV.length (h : MpV w mb fs es clock) (ty : TypeId) : (Builtin.len_ #[60] ty #[.map (some mb)]).run Try.prog w = .ok (.int .i64 (fs.length : Int)) w := by
  have q2 : Try.prog.underlying 60 = some (.map (Try.prog.mapKeyOf 60) (Try.prog.mapElemOf 60)) := by kernel_rfl
  have := run_len_map (P := Try.prog) (w := w) 60 ty mb es clock q2 h.blk
  rw [h.len] at this
  exact this
theorem mpV_new (w : World) : MpV (w.alloc (.map #[] 0)) w.heap.size [] #[] 0 := by
  refine ⟨?_, ⟨by simp, by simp, by simp⟩, rfl⟩
  show (w.heap.push _)[w.heap.size]? = _
  simp
end Go.Proofs.Ytbheifelfeekmaa
