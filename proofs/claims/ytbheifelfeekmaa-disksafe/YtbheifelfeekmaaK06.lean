import Derived.Test.YtbheifelfeekmaaK05
namespace Go.Proofs.Ytbheifelfeekmaa
open Go.RowKit Go.MapKept Go.Sort
set_option linter.unusedVariables false
set_option linter.unusedSimpArgs false
variable {w w' W X : World} {O O' : Nat → Prop} {dB : Nat} {d : Dk4}
structure RdI4 (w : World) (O : Nat → Prop) (a : Option Addr) (k : Nat) (js : List Int) : Prop where
  cap : js.length ≤ k ∧ k ≤ maxLen
  cel : ∀ i j, js[i]? = some j → ∃ b off, a = some ⟨b, off, none⟩ ∧ ¬ O b ∧ w.cell? ⟨b, off + i, none⟩ = some (.int .i64 j)
theorem RdI4.go {a : Option Addr} {k : Nat} {js : List Int} (h : RdI4 w O a k js) (g : Go4 w w' O O') : RdI4 w' O' a k js := by
  refine ⟨h.cap, fun i j hj => ?_⟩
  obtain ⟨b, off, e, hn, hc⟩ := h.cel i j hj
  have hl := World.block_lt_of_cell? _ _ hc
  simp only at hl
  exact ⟨b, off, e, fun z => (g.new b z).elim hn (fun q => by omega), (World.cell?_of_block (a := ⟨b, off + i, none⟩) (g.block b hl hn)).trans hc⟩
def crashF (cuts : List Int) : List (List UInt8) → Nat → List PF → Nat × List PF
  | [], t, fs => (t, fs)
  | x :: xs, t, fs =>
    let v := (atP fs (ofL x)).getD ([], 0)
    if v.2 = v.1.length then crashF cuts xs t fs
    else crashF cuts xs (t + 1) (setP fs (ofL x, v.1.take (keepN v.2 v.1.length (cuts.getD t 0)), keepN v.2 v.1.length (cuts.getD t 0)))
def crashD (d : Dk4) (cuts : List Int) : Nat × Dk4 := ((crashF cuts (lsP d.fs ⟨#[]⟩) 0 d.fs).1, ⟨(crashF cuts (lsP d.fs ⟨#[]⟩) 0 d.fs).2, d.cap, 0, false, d.c⟩)
theorem cut_dsk {mb : Nat} {fl : List FE} {cap arm : Int} {down : Bool} {c : Nat → Int} {f : FE} {v' : Value} {k : Nat} (h : DskM w O dB mb fl cap arm down c) (hf : atF fl f.nm = some f) (hb : FBox w' f.b v' k) (ho : OwnO w' (fun i => f.v.ownBlock = some i ∨ w.heap.size ≤ i) v' (f.dat.take k)) (hv : v' = f.v ∨ ∀ g, v'.ownBlock = some g → w.heap.size ≤ g) (g : Go4 w w' (fun i => i = f.b) (fun i => i = f.b)) :
    ∃ O2, DskM w' O2 dB mb (setF fl ⟨f.nm, f.b, v', f.dat.take k, k⟩) cap arm down c ∧ Go4 w w' O O2 := by
  have hm := atF_mem hf
  have hfil := h.fil f hm.1
  have hw : ∀ i, v'.ownBlock = some i → i < w'.heap.size := fun i hi => by
    obtain ⟨cur, ht⟩ := ho.typ hi
    exact (Array.getElem?_eq_some_iff.1 ht).1
  have hv2 : ∀ i, v'.ownBlock = some i → O i ∨ w.heap.size ≤ i := fun i hi => by
    rcases hv with rfl | hv
    · exact .inl (hfil.2.1.blk i hi)
    · exact .inr (hv i hi)
  refine ⟨fun i => O i ∨ v'.ownBlock = some i, h.inF (f := f) (f' := ⟨f.nm, f.b, v', f.dat.take k, k⟩) hf rfl hb (ho.kept (fun g hg => ⟨rfl, .inr hg⟩)) (fun i hi => .inl hi) (fun i h1 h2 _ => g.block i (h.lt i h1) h2) (fun i hi => ?_) (fun i hi => ?_), ⟨g.os, g.tape, g.output, g.size, fun i hi hn => g.block i hi (fun e => hn (e ▸ hfil.2.2)), fun i hi => hi.elim .inl (hv2 i)⟩⟩
  · rcases hv with rfl | hv
    · exact .inl hi
    · exact .inr (fun z => by have := hv i hi; have := h.lt i z; omega)
  · exact hi.elim (fun z => Nat.lt_of_lt_of_le (h.lt i z) g.size) (hw i)
theorem OwnS.ne {B n b syn : Nat} {v v2 : Value} {ss : List (List UInt8)} (h : OwnS w B v n ss) (k : FBox w b v2 syn) : ∀ g, v.ownBlock = some g → g ≠ b := by
  intro g hg e
  rcases h.2.2 with ⟨rfl, _⟩ | ⟨g2, cap, cur, rfl, _, h5, _⟩
  · cases hg
  · simp only [Value.ownBlock, Option.some.injEq] at hg
    unfold FBox at k
    rw [hg, e, k] at h5
    simp only [Option.some.injEq, Obj.cells.injEq] at h5
    exact absurd h5.2.1 (by decide)
theorem OwnS.go {B n b : Nat} {v : Value} {ss : List (List UInt8)} (h : OwnS w B v n ss) (g : Go4 w w' (fun i => i = b) O') (hn : ∀ g, v.ownBlock = some g → g ≠ b) : OwnS w' B v n ss := by
  refine ⟨h.1, h.2.1, ?_⟩
  rcases h.2.2 with h2 | ⟨g2, cap, cur, h3, h4, h5, h6⟩
  · exact .inl h2
  · exact .inr ⟨g2, cap, cur, h3, h4, by rw [g.block g2 (Array.getElem?_eq_some_iff.1 h5).1 (hn g2 (by rw [h3]; rfl))]; exact h5, h6⟩
theorem atP_set_ne {f : PF} {s : ByteArray} (hne : f.1 ≠ s) : ∀ l : List PF, (∃ v, atP l f.1 = some v) → atP (setP l f) s = atP l s
  | [], h => by obtain ⟨v, hv⟩ := h; cases hv
  | x :: xs, h => by
    by_cases e : x.1 = f.1
    · rw [setP, if_pos e, atP, atP, if_neg hne, if_neg (fun q => hne (by rw [← e, q]))]
    · rw [setP, if_neg e, atP, atP]
      rw [atP, if_neg e] at h
      by_cases e2 : x.1 = s
      · rw [if_pos e2, if_pos e2]
      · rw [if_neg e2, if_neg e2, atP_set_ne hne xs h]
theorem atP_set_some {f : PF} {s : ByteArray} : ∀ l : List PF, (∃ v, atP l f.1 = some v) → (∃ v, atP l s = some v) → ∃ v, atP (setP l f) s = some v := fun l h k => by
  by_cases e : f.1 = s
  · subst e
    obtain ⟨v, hv⟩ := h
    have hm := setP_names (f := f) hv
    cases hq : atP (setP l f) f.1 with
    | some v => exact ⟨v, rfl⟩
    | none =>
      exfalso
      have h1 : f.1 ∈ l.map (·.1) := List.mem_map.2 ⟨_, atP_mem hv, rfl⟩
      rw [← hm] at h1
      obtain ⟨p, hp, e⟩ := List.mem_map.1 h1
      exact atP_none hq p hp e
  · rw [atP_set_ne e l h]
    exact k
set_option maxRecDepth 100000 in
set_option maxHeartbeats 4000000 in
theorem crash_any {a : Option Addr} {nc kc : Nat} {cuts : List Int} (hD : Dsk w O dB d) (hr : RdI4 w O a kc cuts) (hnc : nc = cuts.length) :
    Calls Try.prog 23 #[.pointer (some ⟨dB, 0, none⟩), .slice a nc kc] w fun e w' => e = .returned (.int .i64 ((crashD d cuts).1 : Int)) ∧ ∃ O2, Dsk w' O2 dB (crashD d cuts).2 ∧ Go4 w w' O O2 := by
  have HD := Lib.hid hD
  have HLIST := Lib.hid (list_dsk hD ⟨#[]⟩)
  obtain ⟨L, hL⟩ : ∃ L, L = lsP d.fs ⟨#[]⟩ := ⟨_, rfl⟩
  obtain ⟨R, hR⟩ : ∃ R, R = crashF cuts L 0 d.fs := ⟨_, rfl⟩
  have hC : crashD d cuts = (R.1, ⟨R.2, d.cap, 0, false, d.c⟩) := by rw [hR, hL]; rfl
  rw [hC]
  rw [← hL] at HLIST
  have hlen : L.length ≤ 256 := by
    rw [hL]
    unfold lsP
    rw [List.length_mergeSort, List.length_map]
    refine Nat.le_trans (List.length_filter_le _ _) ?_
    rw [List.length_map]
    exact hD.1.cnt
  have hall : ∀ x ∈ L, ∃ v, atP d.fs (ofL x) = some v := fun x hx => lsP_at (by rw [← hL]; exact hx)
  have HL := Lib.hid (And.intro hlen (And.intro hall hR))
  have hncx : nc ≤ 9223372036854775807 := by have := hr.cap; unfold maxLen at this; omega
  have HR := Lib.hid hr
  have HNC := Lib.hid hnc
  clear hD hL hC hlen hall hr hnc hR
  simp only
  go_enter Try.func23, Try.ntmps23
  go_wp2_with fail
  refine HLIST.out.mono ?_
  rintro e w1 ⟨al, nl, kl, rfl, o1, b1⟩
  have HO1 := Lib.hid o1
  have HD1 := Lib.hid (And.intro (HD.out.below b1) (And.intro (Go4.of_below (O := O) b1) (HR.out.go (Go4.of_below (O := O) b1))))
  have hnl : nl ≤ 256 := by rw [o1.1]; exact HL.out.1
  clear o1 b1
  go_wp2_with fail
  go_loopw [5, 13] (fun tv i wr => ∃ (t tl : Nat) (fs : List PF) (O2 : Nat → Prop), t ≤ nl ∧ tl ≤ t ∧ i = .int .i64 (t : Int) ∧ tv = .int .i64 (tl : Int) ∧ Dsk wr O2 dB ⟨fs, d.cap, d.arm, d.down, d.c⟩ ∧ Go4 w wr O O2 ∧ RdI4 wr O2 a kc cuts ∧ OwnS wr w.heap.size (.slice al nl kl) nl L ∧ (∀ x ∈ L, ∃ v, atP fs (ofL x) = some v) ∧ R = crashF cuts (L.drop t) tl fs) (fun _ i _ => nl - (intOf i).toNat)
  case atStart => exact ⟨0, 0, d.fs, O, Nat.zero_le _, Nat.le_refl _, rfl, rfl, HD1.out.1, HD1.out.2.1, HD1.out.2.2, HO1.out, HL.out.2.1, HL.out.2.2⟩
  case round =>
    obtain ⟨t, tl, fs, O2, ht, htl, rfl, rfl, hdsk, hgo, hri, hown, hat, hRR⟩ := hrel
    have HDK := Lib.hid (And.intro hdsk (And.intro hgo (And.intro hri (And.intro hat hRR))))
    have HOWN := Lib.hid hown
    clear hdsk hgo hri hat hRR hown
    by_cases hlt : t < nl
    · skip
      have j1 : (t : Int) < (nl : Int) := by omega
      have j2 : (0 : Int) ≤ (t : Int) := by omega
      have htL : t < L.length := by rw [← HOWN.out.1]; exact hlt
      have hx : ∃ x, L[t]? = some x := ⟨_, List.getElem?_eq_getElem htL⟩
      obtain ⟨x, hx⟩ := hx
      have hdrop : L.drop t = x :: L.drop (t + 1) := by
        rw [List.drop_eq_getElem_cons htL]
        rw [List.getElem?_eq_getElem htL] at hx
        cases hx
        rfl
      have hc := HOWN.out.rd.2.cel t (ofL x) (by rw [List.getElem?_map, hx]; rfl)
      obtain ⟨gl, hc⟩ := hc
      obtain ⟨ol, hc⟩ := hc
      have hal := hc.1
      have hcl := hc.2
      subst hal
      clear hc
      have hd5 := HDK.out.1
      unfold Dsk at hd5
      have hd6 := hd5.2
      obtain ⟨mb, hd6⟩ := hd6
      obtain ⟨fl, hd6⟩ := hd6
      have hM := hd6.1
      have hfs := hd6.2
      have hok := hd5.1
      simp only at hM hfs
      clear hd5 hd6
      have hatF : ∃ f, atF fl (ofL x) = some f ∧ atP fs (ofL x) = some (f.dat, f.syn) := by
        obtain ⟨v, hv⟩ := HDK.out.2.2.2.1 x (List.mem_of_getElem? hx)
        rw [← hfs, atF_pf] at hv ⊢
        cases h : atF fl (ofL x) with
        | none => rw [h] at hv; cases hv
        | some f => exact ⟨f, rfl, rfl⟩
      obtain ⟨f, hf⟩ := hatF
      obtain ⟨fn, fb, fv, fd, fy⟩ := f
      have hf1 := hf.1
      have hf2 := hf.2
      simp only at hf2
      have hmem := atF_mem hf1
      have hfn := hmem.2
      simp only at hfn
      subst hfn
      have hfb := hM.fil _ hmem.1
      have hform := hfb.2.1.form
      obtain ⟨af, hform⟩ := hform
      obtain ⟨kf, hform⟩ := hform
      simp only at hform
      have hnf : ∃ nf, nf = fd.length := ⟨_, rfl⟩
      obtain ⟨nf, hnf⟩ := hnf
      rw [← hnf] at hform
      subst hform
      have hsy : fy ≤ nf := by rw [hnf]; exact hok.syn _ (atP_mem hf2)
      have hlen2 : nf ≤ 67108864 := by have := totP_mem hf2; simp only at this; have := hok.tot; have := hok.cap1; simp only at *; omega
      have hmp := hM.map
      obtain ⟨es, hmp⟩ := hmp
      obtain ⟨ck, hmp⟩ := hmp
      have hlook := hmp.look (ofL x)
      have e1 : atN (fl.map fun f => (f.nm, f.b)) (ofL x) = some fb := by
        have := atF_nb (ofL x) fl
        rw [hf1] at this
        exact this
      rw [e1] at hlook
      have hlook2 : (Instr.lookup 76 (.map (some mb)) (.string (ofL x)) false).run Try.prog wr = .ok (.pointer (some ⟨fb, 0, none⟩)) wr := hlook
      have c0 := hM.box.cells.1
      have lfb := hfb.1.lt
      simp only at lfb
      have HX := Lib.hid (And.intro hM (And.intro hfs (And.intro hok (And.intro hf1 (And.intro hf2 (And.intro hdrop (And.intro hfb hnf)))))))
      have HSY := Lib.hid hsy
      clear hM hfs hok hf hf1 hf2 hmp hlook e1 hmem hfb hdrop hx hnf
      go_upto_region 6 with fail
      have BD : Below wr.heap.size wr wr.drew := (Below.refl _ _).drew
      refine wp_region_noPanic ?_
      refine wp_region_anyE (S := fun wx => Below wr.heap.size wr wx) (E := fun j => true) (by kernel_rfl) ?_
      have hHeld : Below wr.heap.size wr wr.drew := BD
      have HB := Lib.hid BD
      have hZ0 : ∃ z, z = wr.drew := ⟨_, rfl⟩
      obtain ⟨Z0, hZ0⟩ := hZ0
      rw [← hZ0] at HB hHeld ⊢
      clear hZ0 BD
      refine AnyE.take (i := 0) (.pointer (some ⟨fb, 0, none⟩)) rfl (by kernel_rfl) (by kernel_rfl) (by kernel_rfl) (by kernel_rfl) (fun _ _ _ h => h) (.inl ⟨by kernel_rfl, fun wy hy => by (go_simp; done)⟩) hHeld ?_
      try simp only [Act.put, List.setIfInBounds_toArray, List.set_cons_zero, List.set_cons_succ]
      refine AnyE.take (i := 1) (.pointer (some ⟨fb, 0, none⟩)) rfl (by kernel_rfl) (by kernel_rfl) (by kernel_rfl) (by kernel_rfl) (fun _ _ _ h => h) (.inl ⟨by kernel_rfl, fun wy hy => by (go_simp; done)⟩) hHeld ?_
      try simp only [Act.put, List.setIfInBounds_toArray, List.set_cons_zero, List.set_cons_succ]
      refine AnyE.take (i := 2) (.pointer (some ⟨fb, 1, none⟩)) rfl (by kernel_rfl) (by kernel_rfl) (by kernel_rfl) (by kernel_rfl) (fun _ _ _ h => h) (.inl ⟨by kernel_rfl, fun wy hy => by (go_simp; done)⟩) hHeld ?_
      try simp only [Act.put, List.setIfInBounds_toArray, List.set_cons_zero, List.set_cons_succ]
      refine AnyE.take (i := 3) (.int .i64 (fy : Int)) rfl (by kernel_rfl) (by kernel_rfl) (by kernel_rfl) (by kernel_rfl) (fun _ _ _ h => h) (.inl ⟨by kernel_rfl, fun wy hy => by (have q0 := ((HX.out.2.2.2.2.2.2.1.1).kept (hy.block _ lfb)).cells.2; go_simp; done)⟩) hHeld ?_
      try simp only [Act.put, List.setIfInBounds_toArray, List.set_cons_zero, List.set_cons_succ]
      refine AnyE.take (i := 4) (.pointer (some ⟨fb, 0, none⟩)) rfl (by kernel_rfl) (by kernel_rfl) (by kernel_rfl) (by kernel_rfl) (fun _ _ _ h => h) (.inl ⟨by kernel_rfl, fun wy hy => by (go_simp; done)⟩) hHeld ?_
      try simp only [Act.put, List.setIfInBounds_toArray, List.set_cons_zero, List.set_cons_succ]
      refine AnyE.take (i := 5) (.pointer (some ⟨fb, 0, none⟩)) rfl (by kernel_rfl) (by kernel_rfl) (by kernel_rfl) (by kernel_rfl) (fun _ _ _ h => h) (.inl ⟨by kernel_rfl, fun wy hy => by (go_simp; done)⟩) hHeld ?_
      try simp only [Act.put, List.setIfInBounds_toArray, List.set_cons_zero, List.set_cons_succ]
      refine AnyE.take (i := 6) (.pointer (some ⟨fb, 0, none⟩)) rfl (by kernel_rfl) (by kernel_rfl) (by kernel_rfl) (by kernel_rfl) (fun _ _ _ h => h) (.inl ⟨by kernel_rfl, fun wy hy => by (go_simp; done)⟩) hHeld ?_
      try simp only [Act.put, List.setIfInBounds_toArray, List.set_cons_zero, List.set_cons_succ]
      refine AnyE.take (i := 7) (.slice af nf kf) rfl (by kernel_rfl) (by kernel_rfl) (by kernel_rfl) (by kernel_rfl) (fun _ _ _ h => h) (.inl ⟨by kernel_rfl, fun wy hy => by (have q0 := ((HX.out.2.2.2.2.2.2.1.1).kept (hy.block _ lfb)).cells.1; go_simp; done)⟩) hHeld ?_
      try simp only [Act.put, List.setIfInBounds_toArray, List.set_cons_zero, List.set_cons_succ]
      refine AnyE.take (i := 8) (.int .i64 (nf : Int)) rfl (by kernel_rfl) (by kernel_rfl) (by kernel_rfl) (by kernel_rfl) (fun _ _ _ h => h) (.inl ⟨by kernel_rfl, fun wy hy => by (go_simp; first | done | (cases af <;> (go_simp; done)))⟩) hHeld ?_
      try simp only [Act.put, List.setIfInBounds_toArray, List.set_cons_zero, List.set_cons_succ]
      refine AnyE.take (i := 9) (.bool ((fy : Int) == (nf : Int))) rfl (by kernel_rfl) (by kernel_rfl) (by kernel_rfl) (by kernel_rfl) (fun _ _ _ h => h) (.inl ⟨by kernel_rfl, fun wy hy => by (go_simp; done)⟩) hHeld ?_
      try simp only [Act.put, List.setIfInBounds_toArray, List.set_cons_zero, List.set_cons_succ]
      refine AnyE.done (by kernel_rfl) (NoPanic.normal ?_) _
      have hZ9 : ∃ z, z = Z0 := ⟨_, rfl⟩
      obtain ⟨Y, hZ9⟩ := hZ9
      rw [← hZ9] at HB ⊢
      clear hHeld hZ9 hlook2 c0 hcl
      go_simp
      go_step
      have hRR := HDK.out.2.2.2.2
      rw [HX.out.2.2.2.2.2.1, crashF, HX.out.2.2.2.2.1] at hRR
      simp only [Option.getD_some] at hRR
      rw [← HX.out.2.2.2.2.2.2.2] at hRR
      have HRR := Lib.hid hRR
      have HGY := Lib.hid (HDK.out.2.1.trans (Go4.of_below (O := O2) HB.out))
      have HOY := Lib.hid (HOWN.out.later HB.out)
      have HRY := Lib.hid (HDK.out.2.2.1.go (Go4.of_below (O := O2) HB.out))
      have HMY := Lib.hid (HX.out.1.below HB.out)
      clear hRR
      by_cases hs : fy = nf
      · have d1 : ((fy : Int) == (nf : Int)) = true := by simp [hs]
        have HS := Lib.hid hs
        clear hs
        go_wp2
        go_roundw
        case rel =>
          have h1 := HRR.out
          rw [if_pos HS.out] at h1
          exact ⟨t + 1, tl, fs, O2, by omega, by omega, by go_num, rfl, ⟨HX.out.2.2.1, mb, fl, HMY.out, HX.out.2.1⟩, HGY.out, HRY.out, HOY.out, HDK.out.2.2.2.1, h1⟩
        case measure => simp [intOf]; omega
      · have d1 : ((fy : Int) == (nf : Int)) = false := by simp; omega
        have HS := Lib.hid hs
        clear hs
        by_cases hcu : tl < nc
        · have i1 : (tl : Int) < (nc : Int) := by omega
          have i2 : (0 : Int) ≤ (tl : Int) := by omega
          have hj : ∃ j, cuts[tl]? = some j := ⟨_, List.getElem?_eq_getElem (by rw [← HNC.out]; exact hcu)⟩
          obtain ⟨st, hj⟩ := hj
          have hcc := HRY.out.cel tl st hj
          obtain ⟨bc, hcc⟩ := hcc
          obtain ⟨oc, hcc⟩ := hcc
          have hac := hcc.1
          have hcv := hcc.2.2
          subst hac
          have hst : cuts.getD tl 0 = st := by rw [List.getD_eq_getElem?_getD, hj]; rfl
          have HST := Lib.hid hst
          clear hcc hst hj
          go_wp2_with fail
          refine (cut_any (b := fb) (syn := fy) (v := .slice af nf kf) (dat := fd) (st := st) (HMY.out.fil _ (atF_mem HX.out.2.2.2.1).1).1 (HMY.out.fil _ (atF_mem HX.out.2.2.2.1).1).2.1 (by rw [← HX.out.2.2.2.2.2.2.2]; exact HSY.out) (by rw [← HX.out.2.2.2.2.2.2.2]; exact hlen2) (fun g hg => (HMY.out.neDat (atF_mem HX.out.2.2.2.1).1 hg).2.2 _ (atF_mem HX.out.2.2.2.1).1)).mono ?_
          rintro e Y2 ⟨rfl, v', bx2, ox2, hv2, g2⟩
          have hcut := cut_dsk (f := ⟨ofL x, fb, .slice af nf kf, fd, fy⟩) HMY.out HX.out.2.2.2.1 bx2 ox2 hv2 g2
          obtain ⟨O3, hcut⟩ := hcut
          have hkl := keepN_le (syn := fy) (len := fd.length) (by rw [← HX.out.2.2.2.2.2.2.2]; exact HSY.out) st
          have hfo : FsOk d.cap (setP fs (ofL x, fd.take (keepN fy fd.length st), keepN fy fd.length st)) := fsOk_set (d := ⟨fs, d.cap, d.arm, d.down, d.c⟩) HX.out.2.2.1 HX.out.2.2.2.2.1 (by have h1 := HX.out.2.2.1.tot; have h2 := HX.out.2.2.1.cap0; simp only at h1 h2 ⊢; rw [List.length_take]; omega) (by rw [List.length_take]; omega)
          have hpf : (setF fl ⟨ofL x, fb, v', fd.take (keepN fy fd.length st), keepN fy fd.length st⟩).map FE.pf = setP fs (ofL x, fd.take (keepN fy fd.length st), keepN fy fd.length st) := by rw [setF_pf, HX.out.2.1]; rfl
          have HC := Lib.hid (And.intro hcut.1 (And.intro hcut.2 (And.intro hfo hpf)))
          have HO9 := Lib.hid (HOY.out.go g2 (HOY.out.ne (HMY.out.fil _ (atF_mem HX.out.2.2.2.1).1).1))
          clear bx2 ox2 hv2 g2 hcut hkl hfo hpf
          go_wp2
          go_roundw
          case rel =>
            have h1 := HRR.out
            rw [if_neg HS.out, HST.out, HX.out.2.2.2.2.2.2.2] at h1
            exact ⟨t + 1, tl + 1, _, O3, by omega, by omega, by go_num, by go_num, ⟨HX.out.2.2.1.mk2 HC.out.2.2.1 HX.out.2.2.1.arm0 HX.out.2.2.1.arm1 _ _, mb, _, HC.out.1, HC.out.2.2.2⟩, HGY.out.trans HC.out.2.1, HRY.out.go HC.out.2.1, HO9.out, fun y hy => atP_set_some _ ⟨_, HX.out.2.2.2.2.1⟩ (HDK.out.2.2.2.1 y hy), h1⟩
          case measure => simp [intOf]; omega
        · have i1 : ¬ (tl : Int) < (nc : Int) := by omega
          have hst : cuts.getD tl 0 = 0 := by rw [List.getD_eq_getElem?_getD, List.getElem?_eq_none (by rw [← HNC.out]; omega)]; rfl
          have HST := Lib.hid hst
          clear hst
          go_wp2_with fail
          refine (cut_any (b := fb) (syn := fy) (v := .slice af nf kf) (dat := fd) (st := 0) (HMY.out.fil _ (atF_mem HX.out.2.2.2.1).1).1 (HMY.out.fil _ (atF_mem HX.out.2.2.2.1).1).2.1 (by rw [← HX.out.2.2.2.2.2.2.2]; exact HSY.out) (by rw [← HX.out.2.2.2.2.2.2.2]; exact hlen2) (fun g hg => (HMY.out.neDat (atF_mem HX.out.2.2.2.1).1 hg).2.2 _ (atF_mem HX.out.2.2.2.1).1)).mono ?_
          rintro e Y2 ⟨rfl, v', bx2, ox2, hv2, g2⟩
          have hcut := cut_dsk (f := ⟨ofL x, fb, .slice af nf kf, fd, fy⟩) HMY.out HX.out.2.2.2.1 bx2 ox2 hv2 g2
          obtain ⟨O3, hcut⟩ := hcut
          have hkl := keepN_le (syn := fy) (len := fd.length) (by rw [← HX.out.2.2.2.2.2.2.2]; exact HSY.out) 0
          have hfo : FsOk d.cap (setP fs (ofL x, fd.take (keepN fy fd.length 0), keepN fy fd.length 0)) := fsOk_set (d := ⟨fs, d.cap, d.arm, d.down, d.c⟩) HX.out.2.2.1 HX.out.2.2.2.2.1 (by have h1 := HX.out.2.2.1.tot; have h2 := HX.out.2.2.1.cap0; simp only at h1 h2 ⊢; rw [List.length_take]; omega) (by rw [List.length_take]; omega)
          have hpf : (setF fl ⟨ofL x, fb, v', fd.take (keepN fy fd.length 0), keepN fy fd.length 0⟩).map FE.pf = setP fs (ofL x, fd.take (keepN fy fd.length 0), keepN fy fd.length 0) := by rw [setF_pf, HX.out.2.1]; rfl
          have HC := Lib.hid (And.intro hcut.1 (And.intro hcut.2 (And.intro hfo hpf)))
          have HO9 := Lib.hid (HOY.out.go g2 (HOY.out.ne (HMY.out.fil _ (atF_mem HX.out.2.2.2.1).1).1))
          clear bx2 ox2 hv2 g2 hcut hkl hfo hpf
          go_wp2
          go_roundw
          case rel =>
            have h1 := HRR.out
            rw [if_neg HS.out, HST.out, HX.out.2.2.2.2.2.2.2] at h1
            exact ⟨t + 1, tl + 1, _, O3, by omega, by omega, by go_num, by go_num, ⟨HX.out.2.2.1.mk2 HC.out.2.2.1 HX.out.2.2.1.arm0 HX.out.2.2.1.arm1 _ _, mb, _, HC.out.1, HC.out.2.2.2⟩, HGY.out.trans HC.out.2.1, HRY.out.go HC.out.2.1, HO9.out, fun y hy => atP_set_some _ ⟨_, HX.out.2.2.2.2.1⟩ (HDK.out.2.2.2.1 y hy), h1⟩
          case measure => simp [intOf]; omega
    · have j1 : (nl : Int) ≤ (t : Int) := by omega
      have hend : L.drop t = [] := by rw [List.drop_eq_nil_iff]; have := HOWN.out.1; omega
      have HEND := Lib.hid hend
      clear hend hlt
      have hd5 := HDK.out.1
      unfold Dsk at hd5
      have hd6 := hd5.2
      obtain ⟨mb, hd6⟩ := hd6
      obtain ⟨fl, hd6⟩ := hd6
      have hM := hd6.1
      have hfs := hd6.2
      have z3 := hM.box.fz 3
      have z2 := hM.box.fz 2
      have c3 := hM.box.cells.2.2.2.1
      have c2 := hM.box.cells.2.2.1
      simp only at c3 c2
      have hM2 := (hM.setDown false).setArm 0
      have gM2 : Go4 wr ((wr.setCell ⟨dB, 3, none⟩ (.bool false)).setCell ⟨dB, 2, none⟩ (.int .i64 0)) O2 O2 := (Go4.of_set (a := ⟨dB, 3, none⟩) hM.odb _).trans (Go4.of_set (a := ⟨dB, 2, none⟩) hM.odb _)
      have HF := Lib.hid (And.intro hM2 (And.intro gM2 (And.intro hd5.1 hfs)))
      clear hM hfs hd5 hd6 hM2 gM2
      go_wp2
      go_ret
      have hRR := HDK.out.2.2.2.2
      rw [HEND.out] at hRR
      have r1 : R = (tl, fs) := hRR
      rw [r1]
      refine ⟨rfl, O2, ⟨HF.out.2.2.1.mk2 HF.out.2.2.1.fs (by omega) (by omega) _ _, mb, fl, HF.out.1, HF.out.2.2.2⟩, HDK.out.2.1.trans HF.out.2.1⟩
end Go.Proofs.Ytbheifelfeekmaa

namespace Go.Proofs.Ytbheifelfeekmaa
open Go.RowKit Go.MapKept Go.Sort
set_option linter.unusedVariables false
set_option linter.unusedSimpArgs false
variable {w w' W X : World} {O O' : Nat → Prop} {dB : Nat} {d : Dk4}
structure RdF4 (w : World) (a : Option Addr) (k : Nat) (l : List (PF × Value)) : Prop where
  cap : l.length ≤ k ∧ k ≤ maxLen
  cel : ∀ i x, l[i]? = some x → ∃ g off, a = some ⟨g, off, none⟩ ∧ w.cell? ⟨g, off + i * 3, none⟩ = some (.string x.1.1) ∧ w.cell? ⟨g, off + i * 3 + 1, none⟩ = some x.2 ∧ w.cell? ⟨g, off + i * 3 + 2, none⟩ = some (.int .i64 (x.1.2.2 : Int))
  dat : ∀ x ∈ l, ∃ ap cp, x.2 = .slice ap x.1.2.1.length cp ∧ Rd w x.2 x.1.2.1
theorem RdF4.later {a : Option Addr} {k : Nat} {l : List (PF × Value)} (h : RdF4 w a k l) (b : Below w.heap.size w w') : RdF4 w' a k l := by
  refine ⟨h.cap, fun i x hx => ?_, fun x hx => ?_⟩
  · obtain ⟨g, off, e, h0, h1, h2⟩ := h.cel i x hx
    exact ⟨g, off, e, (b.cell (p := ⟨g, _, none⟩) (World.block_lt_of_cell? _ _ h0)).trans h0, (b.cell (p := ⟨g, _, none⟩) (World.block_lt_of_cell? _ _ h1)).trans h1, (b.cell (p := ⟨g, _, none⟩) (World.block_lt_of_cell? _ _ h2)).trans h2⟩
  · obtain ⟨ap, cp, e, hr⟩ := h.dat x hx
    exact ⟨ap, cp, e, hr.later b⟩
theorem fCells_at : ∀ (l : List (PF × Value)) (i : Nat) (x : PF × Value), l[i]? = some x → (fCells l)[i * 3]? = some (.string x.1.1) ∧ (fCells l)[i * 3 + 1]? = some x.2 ∧ (fCells l)[i * 3 + 2]? = some (.int .i64 (x.1.2.2 : Int))
  | y :: ys, 0, x, h => by
    simp at h
    subst h
    exact ⟨rfl, rfl, rfl⟩
  | y :: ys, i + 1, x, h => by
    have := fCells_at ys i x (by simpa using h)
    have e0 : (i + 1) * 3 = i * 3 + 3 := by omega
    rw [e0]
    simpa [fCells] using this
theorem FLs.rd {B n k : Nat} {a : Option Addr} {l : List (PF × Value)} (h : FLs w B (.slice a n k) n l) (hl : ∀ x ∈ l, x.1.2.1.length ≤ 281474976710656) : n = l.length ∧ RdF4 w a k l := by
  refine ⟨h.len, ?_⟩
  have hd : ∀ x ∈ l, ∃ ap cp, x.2 = .slice ap x.1.2.1.length cp ∧ Rd w x.2 x.1.2.1 := fun x hx => by
    obtain ⟨ap, cp, e⟩ := (h.dat x hx).form
    exact ⟨ap, cp, e, (h.dat x hx).rd (hl x hx)⟩
  have hlen := h.len
  rcases h.row.2 with ⟨h1, h2⟩ | ⟨g, cap, cur, h1, h2, h3, h4, h5, h6, h7⟩
  · simp only [Value.slice.injEq] at h1
    obtain ⟨rfl, _, rfl⟩ := h1
    have : l = [] := List.eq_nil_of_length_eq_zero (by omega)
    subst this
    exact ⟨⟨by simp, by decide⟩, fun i x hx => by simp at hx, hd⟩
  · simp only [Value.slice.injEq] at h1
    obtain ⟨rfl, _, rfl⟩ := h1
    refine ⟨⟨by omega, h5⟩, fun i x hx => ⟨g, 0, rfl, ?_⟩, hd⟩
    have hi := (List.getElem?_eq_some_iff.1 hx).1
    have c := fCells_at l i x hx
    have key : ∀ (j : Nat) (u : Value), (fCells l)[j]? = some u → w.cell? ⟨g, 0 + j, none⟩ = some u := fun j u hu => by
      have hj := (List.getElem?_eq_some_iff.1 hu).1
      rw [fCells_len] at hj
      rw [← h7, List.getElem?_take_of_lt (by omega)] at hu
      simp only [World.cell?, h3, Nat.zero_add]
      simpa using hu
    exact ⟨key _ _ c.1, key _ _ c.2.1, key _ _ c.2.2⟩
set_option maxRecDepth 100000 in
set_option maxHeartbeats 4000000 in
theorem find4_any {a : Option Addr} {n k j : Nat} {l : List (PF × Value)} {x : PF × Value} (hr : RdF4 w a k l) (hn : n = l.length) (hj : l[j]? = some x) (hne : ∀ i y, i < j → l[i]? = some y → y.1.1 ≠ x.1.1) :
    Calls Try.prog 25 #[.slice a n k, .string x.1.1] w fun e w' => e = .returned (.tuple #[.agg #[.string x.1.1, x.2, .int .i64 (x.1.2.2 : Int)], .bool true]) ∧ Below w.heap.size w w' := by
  obtain ⟨⟨nm, dat, syn⟩, vx⟩ := x
  simp only at *
  have hnx : n ≤ 9223372036854775807 := by have := hr.cap; unfold maxLen at this; omega
  have hjn : j < n := by rw [hn]; exact (List.getElem?_eq_some_iff.1 hj).1
  have hform := hr.dat _ (List.mem_of_getElem? hj)
  simp only at hform
  obtain ⟨ap, hform⟩ := hform
  obtain ⟨cp, hform⟩ := hform
  have hvx := hform.1
  obtain ⟨m, hm⟩ : ∃ m, m = dat.length := ⟨_, rfl⟩
  rw [← hm] at hvx
  subst hvx
  have hcj := hr.cel j _ hj
  obtain ⟨g, hcj⟩ := hcj
  obtain ⟨off, hcj⟩ := hcj
  have hag := hcj.1
  have hc2 := hcj.2
  simp only at hc2
  subst hag
  have HC := Lib.hid hc2
  have HR := Lib.hid hr
  have HN := Lib.hid (And.intro hn (And.intro hj hne))
  have lg := World.block_lt_of_cell? _ _ hc2.1
  simp only at lg
  clear hr hn hj hne hform hm hcj hc2
  go_enter Try.func25, Try.ntmps25
  go_wp2
  have b0 := (Below.refl w.heap.size w).alloc (Nat.le_refl _) (.cells #[.string ⟨#[]⟩, .slice none 0 0, .int .i64 0] 50)
  have hW : ∃ W, W = w.alloc (.cells #[.string ⟨#[]⟩, .slice none 0 0, .int .i64 0] 50) := ⟨_, rfl⟩
  have hat : (w.alloc (.cells #[.string ⟨#[]⟩, .slice none 0 0, .int .i64 0] 50)).heap[w.heap.size]? = some (.cells #[.string ⟨#[]⟩, .slice none 0 0, .int .i64 0] 50) := heap_alloc_new _ _
  obtain ⟨W, hW⟩ := hW
  rw [← hW] at b0 hat ⊢
  obtain ⟨xb, hxb⟩ : ∃ xb, xb = w.heap.size := ⟨_, rfl⟩
  rw [← hxb] at hat ⊢
  have HB := Lib.hid b0
  have HAT := Lib.hid hat
  have HXB := Lib.hid hxb
  clear hW b0 hat hxb
  go_loopw [6] (fun i wr => ∃ t : Nat, t ≤ j ∧ i = .int .i64 (t : Int) ∧ wr = W) (fun i _ => n - (intOf i).toNat)
  case atStart => exact ⟨0, Nat.zero_le _, rfl, rfl⟩
  case round =>
    obtain ⟨t, ht, rfl, rfl⟩ := hrel
    have j1 : (t : Int) < (n : Int) := by omega
    have j2 : (0 : Int) ≤ (t : Int) := by omega
    have hy : ∃ y, l[t]? = some y := ⟨_, List.getElem?_eq_getElem (by rw [← HN.out.1]; omega)⟩
    obtain ⟨y, hy⟩ := hy
    have hcy := (HR.out.later HB.out).cel t y hy
    obtain ⟨g2, hcy⟩ := hcy
    obtain ⟨off2, hcy⟩ := hcy
    have e2 := hcy.1
    simp only [Option.some.injEq, Addr.mk.injEq, and_true] at e2
    have hc0 := hcy.2.1
    rw [← e2.1, ← e2.2] at hc0
    obtain ⟨yn, hyn⟩ : ∃ yn, yn = y.1.1 := ⟨_, rfl⟩
    rw [← hyn] at hc0
    have HYN := Lib.hid hyn
    have HY := Lib.hid hy
    clear hcy e2 hyn hy
    by_cases htj : t < j
    · have hne : yn ≠ nm := by rw [HYN.out]; exact HN.out.2.2 t y htj HY.out
      have hne2 : (yn.toList == nm.toList) = false := by
        rw [ByteArray.toList_eq, ByteArray.toList_eq]
        simp only [beq_eq_false_iff_ne, ne_eq]
        intro e
        exact hne (ByteArray.ext (Array.toList_inj.1 e))
      have HNE := Lib.hid hne
      clear hne
      go_wp2
      go_roundw
      case rel => exact ⟨t + 1, by omega, by go_num, trivial⟩
      case measure => simp [intOf]; omega
    · have htj2 : t = j := by omega
      subst htj2
      have hynm : yn = nm := by
        have h1 := HY.out
        rw [HN.out.2.1] at h1
        cases h1
        exact HYN.out
      subst hynm
      have q0 := (HB.out.cell (p := ⟨g, off + t * 3, none⟩) lg).trans HC.out.1
      have q1 := (HB.out.cell (p := ⟨g, off + t * 3 + 1, none⟩) lg).trans HC.out.2.1
      have q2 := (HB.out.cell (p := ⟨g, off + t * 3 + 2, none⟩) lg).trans HC.out.2.2
      have x0 : wr.cell? ⟨xb, 0, none⟩ = some (.string ⟨#[]⟩) ∧ wr.cell? ⟨xb, 1, none⟩ = some (.slice none 0 0) ∧ wr.cell? ⟨xb, 2, none⟩ = some (.int .i64 0) := by
        simp [World.cell?, HAT.out]
      have x1 : ∀ i, wr.frozen? ⟨xb, i, none⟩ = false := fun i => by simp [World.frozen?, HAT.out]
      obtain ⟨x00, x01, x02⟩ := x0
      have f0 := x1 0
      have f1 := x1 1
      have f2 := x1 2
      have ngx : g ≠ xb := by have := HXB.out; omega
      have nxg : xb ≠ g := Ne.symm ngx
      clear htj hc0 x1
      go_wp2
      have v0 : (((wr.setCell ⟨xb, 0, none⟩ (.string yn)).setCell ⟨xb, 1, none⟩ (.slice ap m cp)).setCell ⟨xb, 2, none⟩ (.int .i64 (syn : Int))).cell? ⟨xb, 0, none⟩ = some (.string yn) := by simp [go_sem, x00, x01, x02]
      have v1 : (((wr.setCell ⟨xb, 0, none⟩ (.string yn)).setCell ⟨xb, 1, none⟩ (.slice ap m cp)).setCell ⟨xb, 2, none⟩ (.int .i64 (syn : Int))).cell? ⟨xb, 1, none⟩ = some (.slice ap m cp) := by simp [go_sem, x00, x01, x02]
      have v2 : (((wr.setCell ⟨xb, 0, none⟩ (.string yn)).setCell ⟨xb, 1, none⟩ (.slice ap m cp)).setCell ⟨xb, 2, none⟩ (.int .i64 (syn : Int))).cell? ⟨xb, 2, none⟩ = some (.int .i64 (syn : Int)) := by simp [go_sem, x00, x01, x02]
      have bv : Below w.heap.size w (((wr.setCell ⟨xb, 0, none⟩ (.string yn)).setCell ⟨xb, 1, none⟩ (.slice ap m cp)).setCell ⟨xb, 2, none⟩ (.int .i64 (syn : Int))) := by
        have h := HXB.out
        exact ((HB.out.setCell (p := ⟨xb, 0, none⟩) (by simp only; omega) _).setCell (p := ⟨xb, 1, none⟩) (by simp only; omega) _).setCell (p := ⟨xb, 2, none⟩) (by simp only; omega) _
      have hV : ∃ V, V = (((wr.setCell ⟨xb, 0, none⟩ (.string yn)).setCell ⟨xb, 1, none⟩ (.slice ap m cp)).setCell ⟨xb, 2, none⟩ (.int .i64 (syn : Int))) := ⟨_, rfl⟩
      obtain ⟨V, hV⟩ := hV
      rw [← hV] at v0 v1 v2 bv ⊢
      clear hV
      refine bodyPost_ret (v := .tuple #[.agg #[.string yn, .slice ap m cp, .int .i64 (syn : Int)], .bool true]) ?_ rfl ⟨rfl, bv⟩
      simp [results, Try.results25, go_sem, v0, v1, v2]
end Go.Proofs.Ytbheifelfeekmaa

namespace Go.Proofs.Ytbheifelfeekmaa
open Go.RowKit Go.MapKept
set_option linter.unusedVariables false
set_option linter.unusedSimpArgs false
variable {w w' W X : World} {O O' : Nat → Prop} {dB : Nat} {d : Dk4}
theorem AnsD.before {r : Int × Dk4} {e : Ending} (b : Below w.heap.size w W) (h : AnsD W O dB r e w') : AnsD w O dB r e w' := by
  obtain ⟨h1, O2, h2, h3⟩ := h
  exact ⟨h1, O2, h2, (Go4.of_below b).trans h3⟩
def nameK (k : Nat) : ByteArray := ⟨#[102, 47]⟩ ++ str [97 + k]
def nameN (n : Int) : ByteArray := nameK (n % 8).toNat
theorem nameK_name : ∀ k, k < 8 → DkName (nameK k)
  | 0, _ => of_decide_eq_true (by kernel_rfl)
  | 1, _ => of_decide_eq_true (by kernel_rfl)
  | 2, _ => of_decide_eq_true (by kernel_rfl)
  | 3, _ => of_decide_eq_true (by kernel_rfl)
  | 4, _ => of_decide_eq_true (by kernel_rfl)
  | 5, _ => of_decide_eq_true (by kernel_rfl)
  | 6, _ => of_decide_eq_true (by kernel_rfl)
  | 7, _ => of_decide_eq_true (by kernel_rfl)
  | k + 8, h => by omega
set_option maxRecDepth 100000 in
set_option maxHeartbeats 2000000 in
theorem name4_any (n : Int) (w : World) : Calls Try.prog 28 #[.int .i64 n] w fun e w' => e = .returned (.string (nameN n)) ∧ Below w.heap.size w w' := by
  obtain ⟨k, hk⟩ : ∃ k, k = (n % 8).toNat := ⟨_, rfl⟩
  unfold nameN
  rw [← hk]
  have hk8 : k < 8 := by omega
  obtain ⟨q, hq⟩ : ∃ q, q = 97 + k := ⟨_, rfl⟩
  unfold nameK
  rw [← hq]
  have HK := Lib.hid (And.intro hk hk8)
  have hrd : ∀ W : World, Rd (W.alloc (.cells #[.int .u8 (q : Int)] 5)) (.slice (some ⟨W.heap.size, 0, none⟩) 1 1) [q] := fun W => by
    refine ⟨by intro x hx; simp at hx; omega, _, 1, rfl, Nat.le_refl _, by decide, by simp, .inr ⟨_, _, rfl⟩, .inr ⟨_, 0, rfl, fun i hi => ?_⟩⟩
    simp at hi
    subst hi
    simp [go_sem]
  have hcv := fun W => conv_str (hrd W)
  have htm := Int.tmod_eq_emod (a := n) (b := 8)
  have hb : -8 < n.tmod 8 ∧ n.tmod 8 < 8 := by
    split at htm <;> (simp at htm; omega)
  by_cases hneg : n.tmod 8 < 0
  · have e1 : n.tmod 8 + 8 = (k : Int) := by
      split at htm <;> (simp at htm; omega)
    have h97 : (97 + (n.tmod 8 + 8)) = (q : Int) := by omega
    have hcw := hcv w
    rw [← h97] at hcw
    clear hrd hcv hk e1 htm h97 hq
    go_enter Try.func28, Try.ntmps28
    go_wp2
    go_ret
    exact ⟨rfl, (Below.refl _ _).alloc (Nat.le_refl _) _⟩
  · have e1 : n.tmod 8 = (k : Int) := by
      split at htm <;> (simp at htm; omega)
    have h97 : (97 + n.tmod 8) = (q : Int) := by omega
    have hcw := hcv w
    rw [← h97] at hcw
    clear hrd hcv hk e1 htm h97 hq
    go_enter Try.func28, Try.ntmps28
    go_wp2
    go_ret
    exact ⟨rfl, (Below.refl _ _).alloc (Nat.le_refl _) _⟩
end Go.Proofs.Ytbheifelfeekmaa

namespace Go.Proofs.Ytbheifelfeekmaa
open Go.RowKit Go.MapKept
set_option linter.unusedVariables false
set_option linter.unusedSimpArgs false
variable {w w' W X : World} {O O' : Nat → Prop} {dB : Nat} {d : Dk4}
def armD (d : Dk4) (n : Int) : Dk4 := if d.down = true then d else { d with arm := max n 0 }
set_option maxRecDepth 100000 in
theorem arm_any (hD : Dsk w O dB d) (n : Int) (hn : n ≤ 9223372036854775807) : Calls Try.prog 20 #[.pointer (some ⟨dB, 0, none⟩), .int .i64 n] w fun e w' => e = .returned (.tuple #[]) ∧ Dsk w' O dB (armD d n) ∧ Go4 w w' O O := by
  obtain ⟨ok, mb, fl, hM, hfl⟩ := hD
  have c3 := hM.box.cells.2.2.2.1
  have c2 := hM.box.cells.2.2.1
  have z2 := hM.box.fz 2
  have HM := Lib.hid (And.intro hM (And.intro hfl ok))
  clear hM hfl ok
  unfold armD
  cases hd : d.down with
  | true =>
    rw [hd] at c3
    rw [if_pos rfl]
    clear hd c2 z2
    go_enter Try.func20, Try.ntmps20
    go_wp2
    go_end0
    exact ⟨rfl, ⟨HM.out.2.2, mb, fl, HM.out.1, HM.out.2.1⟩, Go4.refl _ _⟩
  | false =>
    rw [hd] at c3
    rw [if_neg (by simp)]
    have HDD := Lib.hid hd
    clear hd
    have fin : ∀ x : Int, 0 ≤ x → x ≤ 9223372036854775807 → Dsk (w.setCell ⟨dB, 2, none⟩ (.int .i64 x)) O dB { d with arm := x } ∧ Go4 w (w.setCell ⟨dB, 2, none⟩ (.int .i64 x)) O O := fun x h0 h1 => ⟨⟨HM.out.2.2.mk2 HM.out.2.2.fs h0 h1 _ _, mb, fl, HM.out.1.setArm x, HM.out.2.1⟩, Go4.of_set (a := ⟨dB, 2, none⟩) HM.out.1.odb _⟩
    have HF := Lib.hid fin
    clear fin
    by_cases h0 : n < 0
    · have hmx : max n 0 = 0 := by omega
      rw [hmx]
      go_enter Try.func20, Try.ntmps20
      go_wp2
      go_end0
      have := HF.out 0 (by omega) (by omega)
      rw [HDD.out] at this
      exact ⟨rfl, this⟩
    · have hmx : max n 0 = n := by omega
      rw [hmx]
      go_enter Try.func20, Try.ntmps20
      go_wp2
      go_end0
      have := HF.out n (by omega) hn
      rw [HDD.out] at this
      exact ⟨rfl, this⟩
set_option maxRecDepth 100000 in
theorem down_any (hD : Dsk w O dB d) : Calls Try.prog 24 #[.pointer (some ⟨dB, 0, none⟩)] w fun e w' => e = .returned (.bool d.down) ∧ w' = w := by
  obtain ⟨ok, mb, fl, hM, hfl⟩ := hD
  have c3 := hM.box.cells.2.2.2.1
  clear hM hfl ok
  go_enter Try.func24, Try.ntmps24
  go_wp2
  go_ret
  exact ⟨rfl, rfl⟩
set_option maxRecDepth 100000 in
theorem cap_any (hD : Dsk w O dB d) : Calls Try.prog 30 #[.pointer (some ⟨dB, 0, none⟩)] w fun e w' => e = .returned (.int .i64 d.cap) ∧ w' = w := by
  obtain ⟨ok, mb, fl, hM, hfl⟩ := hD
  have c3 := hM.box.cells.2.1
  clear hM hfl ok
  go_enter Try.func30, Try.ntmps30
  go_wp2
  go_ret
  exact ⟨rfl, rfl⟩
def actD (d : Dk4) (kind file too : Int) (bs : List Nat) : Int × Dk4 :=
  if kind = 1 then createD d (nameN file) else if kind = 2 then appendD d (nameN file) bs else if kind = 3 then syncD d (nameN file) else if kind = 4 then renameD d (nameN file) (nameN too) else if kind = 5 then deleteD d (nameN file) else (0, d)
set_option maxRecDepth 100000 in
set_option maxHeartbeats 4000000 in
theorem act_any {kind file too : Int} {ab : Option Addr} {nb kb : Nat} {bs : List Nat} (hD : Dsk w O dB d) (hrd : RdA w O (.slice ab nb kb) bs) :
    Calls Try.prog 21 #[.pointer (some ⟨dB, 0, none⟩), .agg #[.int .i64 kind, .int .i64 file, .int .i64 too, .slice ab nb kb]] w (AnsD w O dB (actD d kind file too bs)) := by
  obtain ⟨R, hR⟩ : ∃ R, R = actD d kind file too bs := ⟨_, rfl⟩
  rw [← hR]
  have HR := Lib.hid hR
  have HD := Lib.hid hD
  have HRD := Lib.hid hrd
  clear hR hD hrd
  go_enter Try.func21, Try.ntmps21
  go_upto_region 1 with fail
  have b0 := (Below.refl w.heap.size w).alloc (Nat.le_refl _) (.cells #[.int .i64 kind, .int .i64 file, .int .i64 too, .slice ab nb kb] 44)
  have cs : (w.alloc (.cells #[.int .i64 kind, .int .i64 file, .int .i64 too, .slice ab nb kb] 44)).cell? ⟨w.heap.size, 0, none⟩ = some (.int .i64 kind) ∧ (w.alloc (.cells #[.int .i64 kind, .int .i64 file, .int .i64 too, .slice ab nb kb] 44)).cell? ⟨w.heap.size, 1, none⟩ = some (.int .i64 file) ∧ (w.alloc (.cells #[.int .i64 kind, .int .i64 file, .int .i64 too, .slice ab nb kb] 44)).cell? ⟨w.heap.size, 2, none⟩ = some (.int .i64 too) ∧ (w.alloc (.cells #[.int .i64 kind, .int .i64 file, .int .i64 too, .slice ab nb kb] 44)).cell? ⟨w.heap.size, 3, none⟩ = some (.slice ab nb kb) ∧ w.heap.size < (w.alloc (.cells #[.int .i64 kind, .int .i64 file, .int .i64 too, .slice ab nb kb] 44)).heap.size := by
    refine ⟨?_, ?_, ?_, ?_, ?_⟩ <;> simp [go_sem]
  obtain ⟨W, hW⟩ : ∃ W, W = w.alloc (.cells #[.int .i64 kind, .int .i64 file, .int .i64 too, .slice ab nb kb] 44) := ⟨_, rfl⟩
  rw [← hW] at b0 cs ⊢
  obtain ⟨xb, hxb⟩ : ∃ xb, xb = w.heap.size := ⟨_, rfl⟩
  rw [← hxb] at cs ⊢
  obtain ⟨ck, cf, ct, cb, lx⟩ := cs
  have HB := Lib.hid b0
  have HDW := Lib.hid (HD.out.below b0)
  have hra : RdA W O (.slice ab nb kb) bs := ⟨HRD.out.1.later b0, HRD.out.2⟩
  have HRA := Lib.hid hra
  have HNF := fun X => Lib.hid (name4_any file X)
  have HNT := fun X => Lib.hid (name4_any too X)
  have HX := Lib.hid hxb
  clear hW b0 hra hxb
  by_cases k1 : kind = 1
  · subst k1
    have hRR : R = createD d (nameN file) := by rw [HR.out, actD, if_pos rfl]
    subst hRR
    go_wp2_with fail
    refine (HNF W).out.mono ?_
    rintro e X ⟨rfl, bx⟩
    have HBX := Lib.hid bx
    clear bx
    go_wp2_with fail
    refine (create_any (HDW.out.below HBX.out)).mono ?_
    intro e w2 ha
    have ha2 := AnsD.before (HB.out.trans (HBX.out.mono HB.out.size)) ha
    obtain ⟨rfl, hq⟩ := ha2
    have HQ := Lib.hid hq
    clear ha hq
    go_wp2
    go_ret
    exact ⟨rfl, HQ.out⟩
  have q1 : (kind == 1) = false := by simpa using k1
  by_cases k2 : kind = 2
  · subst k2
    have hRR : R = appendD d (nameN file) bs := by rw [HR.out, actD, if_neg (by decide), if_pos rfl]
    subst hRR
    go_upto_region 5 with fail
    refine wp_region_noPanic ?_
    refine wp_region_anyE (S := fun wx => wx.cell? ⟨xb, 1, none⟩ = some (.int .i64 file) ∧ wx.cell? ⟨xb, 2, none⟩ = some (.int .i64 too) ∧ wx.cell? ⟨xb, 3, none⟩ = some (.slice ab nb kb)) (E := fun j => decide (j < 7)) (by kernel_rfl) ?_
    have HBY := Lib.hid ((Below.refl W.heap.size W).drew)
    have hS : ∀ wx : World, Below W.heap.size W wx → wx.cell? ⟨xb, 1, none⟩ = some (.int .i64 file) ∧ wx.cell? ⟨xb, 2, none⟩ = some (.int .i64 too) ∧ wx.cell? ⟨xb, 3, none⟩ = some (.slice ab nb kb) := fun wx hb => ⟨(hb.cell (p := ⟨xb, 1, none⟩) lx).trans cf, (hb.cell (p := ⟨xb, 2, none⟩) lx).trans ct, (hb.cell (p := ⟨xb, 3, none⟩) lx).trans cb⟩
    have HSS := Lib.hid hS
    clear hS
    have hZ0 : ∃ z, z = W.drew := ⟨_, rfl⟩
    obtain ⟨Z0, hZ0⟩ := hZ0
    rw [← hZ0] at HBY ⊢
    have hHeld := HSS.out Z0 HBY.out
    clear hZ0
    refine AnyE.take (i := 0) (.pointer (some ⟨dB, 0, none⟩)) rfl (by kernel_rfl) (by kernel_rfl) (by kernel_rfl) (by kernel_rfl) (fun _ _ _ h => h) (.inl ⟨by kernel_rfl, fun wy hy => by (go_simp; done)⟩) hHeld ?_
    try simp only [Act.put, List.setIfInBounds_toArray, List.set_cons_zero, List.set_cons_succ]
    refine AnyE.take (i := 1) (.pointer (some ⟨xb, 1, none⟩)) rfl (by kernel_rfl) (by kernel_rfl) (by kernel_rfl) (by kernel_rfl) (fun _ _ _ h => h) (.inl ⟨by kernel_rfl, fun wy hy => by (go_simp; done)⟩) hHeld ?_
    try simp only [Act.put, List.setIfInBounds_toArray, List.set_cons_zero, List.set_cons_succ]
    refine AnyE.take (i := 2) (.int .i64 file) rfl (by kernel_rfl) (by kernel_rfl) (by kernel_rfl) (by kernel_rfl) (fun _ _ _ h => h) (.inl ⟨by kernel_rfl, fun wy hy => by (have q0 := hy.1; go_simp; done)⟩) hHeld ?_
    try simp only [Act.put, List.setIfInBounds_toArray, List.set_cons_zero, List.set_cons_succ]
    refine AnyE.take (i := 4) (.pointer (some ⟨xb, 3, none⟩)) rfl (by kernel_rfl) (by kernel_rfl) (by kernel_rfl) (by kernel_rfl) (fun _ _ _ h => h) (.inl ⟨by kernel_rfl, fun wy hy => by (go_simp; done)⟩) hHeld ?_
    try simp only [Act.put, List.setIfInBounds_toArray, List.set_cons_zero, List.set_cons_succ]
    refine AnyE.take (i := 5) (.slice ab nb kb) rfl (by kernel_rfl) (by kernel_rfl) (by kernel_rfl) (by kernel_rfl) (fun _ _ _ h => h) (.inl ⟨by kernel_rfl, fun wy hy => by (have q0 := hy.2.2; go_simp; done)⟩) hHeld ?_
    try simp only [Act.put, List.setIfInBounds_toArray, List.set_cons_zero, List.set_cons_succ]
    refine AnyE.one (i := 3) rfl (by kernel_rfl) (by kernel_rfl) (fun KK hK => ?_)
    go_simp
    go_at_call 28
    refine (HNF _).out.mono ?_
    rintro e9 Z3 ⟨rfl, b1⟩
    have HBY := Lib.hid (HBY.out.trans (b1.mono HBY.out.size))
    clear b1
    go_wp2_with fail
    have hHeld := HSS.out _ HBY.out
    refine hK.out _ _ ⟨fun _ => hHeld, ?_⟩
    clear hK
    try simp only [Act.put, List.setIfInBounds_toArray, List.set_cons_zero, List.set_cons_succ]
    refine AnyE.one (i := 6) rfl (by kernel_rfl) (by kernel_rfl) (fun KK hK => ?_)
    go_simp
    go_at_call 15
    refine (append_any (HDW.out.below HBY.out) ⟨HRA.out.1.later HBY.out, HRA.out.2⟩).mono ?_
    intro e w2 ha
    have hS2 : w2.cell? ⟨xb, 1, none⟩ = some (.int .i64 file) ∧ w2.cell? ⟨xb, 2, none⟩ = some (.int .i64 too) ∧ w2.cell? ⟨xb, 3, none⟩ = some (.slice ab nb kb) := by
      obtain ⟨_, O2, _, g2⟩ := ha
      have hn : ¬ O xb := fun h => by have := HD.out.lt xb h; have := HX.out; omega
      have hk := g2.block xb (Nat.lt_of_lt_of_le lx HBY.out.size) hn
      exact ⟨(World.cell?_of_block (a := ⟨xb, 1, none⟩) hk).trans hHeld.1, (World.cell?_of_block (a := ⟨xb, 2, none⟩) hk).trans hHeld.2.1, (World.cell?_of_block (a := ⟨xb, 3, none⟩) hk).trans hHeld.2.2⟩
    have ha2 := AnsD.before (HB.out.trans (HBY.out.mono HB.out.size)) ha
    obtain ⟨rfl, hq⟩ := ha2
    have HQ := Lib.hid hq
    clear ha hq
    go_wp2_with fail
    refine hK.out _ _ ⟨fun _ => hS2, ?_⟩
    clear hK hHeld
    try simp only [Act.put, List.setIfInBounds_toArray, List.set_cons_zero, List.set_cons_succ]
    refine AnyE.one (i := 7) rfl (by kernel_rfl) (by kernel_rfl) (fun KK hK => ?_)
    go_simp
    refine hK.out _ _ ⟨fun h => (by cases h), ?_⟩
    clear hK
    try simp only [Act.put, List.setIfInBounds_toArray, List.set_cons_zero, List.set_cons_succ]
    refine AnyE.done (by kernel_rfl) (NoPanic.normal ?_) _
    go_wp2
    go_ret
    exact ⟨rfl, HQ.out⟩
  have q2 : (kind == 2) = false := by simpa using k2
  by_cases k3 : kind = 3
  · subst k3
    have hRR : R = syncD d (nameN file) := by rw [HR.out, actD, if_neg (by decide), if_neg (by decide), if_pos rfl]
    subst hRR
    go_wp2_with fail
    refine (HNF W).out.mono ?_
    rintro e X ⟨rfl, bx⟩
    have HBX := Lib.hid bx
    clear bx
    go_wp2_with fail
    refine (sync_any (HDW.out.below HBX.out)).mono ?_
    intro e w2 ha
    have ha2 := AnsD.before (HB.out.trans (HBX.out.mono HB.out.size)) ha
    obtain ⟨rfl, hq⟩ := ha2
    have HQ := Lib.hid hq
    clear ha hq
    go_wp2
    go_ret
    exact ⟨rfl, HQ.out⟩
  have q3 : (kind == 3) = false := by simpa using k3
  by_cases k4 : kind = 4
  · subst k4
    have hRR : R = renameD d (nameN file) (nameN too) := by rw [HR.out, actD, if_neg (by decide), if_neg (by decide), if_neg (by decide), if_pos rfl]
    subst hRR
    go_upto_region 9 with fail
    refine wp_region_noPanic ?_
    refine wp_region_anyE (S := fun wx => wx.cell? ⟨xb, 1, none⟩ = some (.int .i64 file) ∧ wx.cell? ⟨xb, 2, none⟩ = some (.int .i64 too) ∧ wx.cell? ⟨xb, 3, none⟩ = some (.slice ab nb kb)) (E := fun j => decide (j < 8)) (by kernel_rfl) ?_
    have HBY := Lib.hid ((Below.refl W.heap.size W).drew)
    have hS : ∀ wx : World, Below W.heap.size W wx → wx.cell? ⟨xb, 1, none⟩ = some (.int .i64 file) ∧ wx.cell? ⟨xb, 2, none⟩ = some (.int .i64 too) ∧ wx.cell? ⟨xb, 3, none⟩ = some (.slice ab nb kb) := fun wx hb => ⟨(hb.cell (p := ⟨xb, 1, none⟩) lx).trans cf, (hb.cell (p := ⟨xb, 2, none⟩) lx).trans ct, (hb.cell (p := ⟨xb, 3, none⟩) lx).trans cb⟩
    have HSS := Lib.hid hS
    clear hS
    have hZ0 : ∃ z, z = W.drew := ⟨_, rfl⟩
    obtain ⟨Z0, hZ0⟩ := hZ0
    rw [← hZ0] at HBY ⊢
    have hHeld := HSS.out Z0 HBY.out
    clear hZ0
    refine AnyE.take (i := 0) (.pointer (some ⟨dB, 0, none⟩)) rfl (by kernel_rfl) (by kernel_rfl) (by kernel_rfl) (by kernel_rfl) (fun _ _ _ h => h) (.inl ⟨by kernel_rfl, fun wy hy => by (go_simp; done)⟩) hHeld ?_
    try simp only [Act.put, List.setIfInBounds_toArray, List.set_cons_zero, List.set_cons_succ]
    refine AnyE.take (i := 1) (.pointer (some ⟨xb, 1, none⟩)) rfl (by kernel_rfl) (by kernel_rfl) (by kernel_rfl) (by kernel_rfl) (fun _ _ _ h => h) (.inl ⟨by kernel_rfl, fun wy hy => by (go_simp; done)⟩) hHeld ?_
    try simp only [Act.put, List.setIfInBounds_toArray, List.set_cons_zero, List.set_cons_succ]
    refine AnyE.take (i := 2) (.int .i64 file) rfl (by kernel_rfl) (by kernel_rfl) (by kernel_rfl) (by kernel_rfl) (fun _ _ _ h => h) (.inl ⟨by kernel_rfl, fun wy hy => by (have q0 := hy.1; go_simp; done)⟩) hHeld ?_
    try simp only [Act.put, List.setIfInBounds_toArray, List.set_cons_zero, List.set_cons_succ]
    refine AnyE.take (i := 4) (.pointer (some ⟨xb, 2, none⟩)) rfl (by kernel_rfl) (by kernel_rfl) (by kernel_rfl) (by kernel_rfl) (fun _ _ _ h => h) (.inl ⟨by kernel_rfl, fun wy hy => by (go_simp; done)⟩) hHeld ?_
    try simp only [Act.put, List.setIfInBounds_toArray, List.set_cons_zero, List.set_cons_succ]
    refine AnyE.take (i := 5) (.int .i64 too) rfl (by kernel_rfl) (by kernel_rfl) (by kernel_rfl) (by kernel_rfl) (fun _ _ _ h => h) (.inl ⟨by kernel_rfl, fun wy hy => by (have q0 := hy.2.1; go_simp; done)⟩) hHeld ?_
    try simp only [Act.put, List.setIfInBounds_toArray, List.set_cons_zero, List.set_cons_succ]
    refine AnyE.one (i := 3) rfl (by kernel_rfl) (by kernel_rfl) (fun KK hK => ?_)
    go_simp
    go_at_call 28
    refine (HNF _).out.mono ?_
    rintro e9 Z3 ⟨rfl, b1⟩
    have HBY := Lib.hid (HBY.out.trans (b1.mono HBY.out.size))
    clear b1
    go_wp2_with fail
    have hHeld := HSS.out _ HBY.out
    refine hK.out _ _ ⟨fun _ => hHeld, ?_⟩
    clear hK
    try simp only [Act.put, List.setIfInBounds_toArray, List.set_cons_zero, List.set_cons_succ]
    refine AnyE.one (i := 6) rfl (by kernel_rfl) (by kernel_rfl) (fun KK hK => ?_)
    go_simp
    go_at_call 28
    refine (HNT _).out.mono ?_
    rintro e9 Z6 ⟨rfl, b1⟩
    have HBY := Lib.hid (HBY.out.trans (b1.mono HBY.out.size))
    clear b1
    go_wp2_with fail
    have hHeld := HSS.out _ HBY.out
    refine hK.out _ _ ⟨fun _ => hHeld, ?_⟩
    clear hK
    try simp only [Act.put, List.setIfInBounds_toArray, List.set_cons_zero, List.set_cons_succ]
    refine AnyE.one (i := 7) rfl (by kernel_rfl) (by kernel_rfl) (fun KK hK => ?_)
    go_simp
    go_at_call 17
    refine (rename_any (HDW.out.below HBY.out)).mono ?_
    intro e w2 ha
    have hS2 : w2.cell? ⟨xb, 1, none⟩ = some (.int .i64 file) ∧ w2.cell? ⟨xb, 2, none⟩ = some (.int .i64 too) ∧ w2.cell? ⟨xb, 3, none⟩ = some (.slice ab nb kb) := by
      obtain ⟨_, O2, _, g2⟩ := ha
      have hn : ¬ O xb := fun h => by have := HD.out.lt xb h; have := HX.out; omega
      have hk := g2.block xb (Nat.lt_of_lt_of_le lx HBY.out.size) hn
      exact ⟨(World.cell?_of_block (a := ⟨xb, 1, none⟩) hk).trans hHeld.1, (World.cell?_of_block (a := ⟨xb, 2, none⟩) hk).trans hHeld.2.1, (World.cell?_of_block (a := ⟨xb, 3, none⟩) hk).trans hHeld.2.2⟩
    have ha2 := AnsD.before (HB.out.trans (HBY.out.mono HB.out.size)) ha
    obtain ⟨rfl, hq⟩ := ha2
    have HQ := Lib.hid hq
    clear ha hq
    go_wp2_with fail
    refine hK.out _ _ ⟨fun _ => hS2, ?_⟩
    clear hK hHeld
    try simp only [Act.put, List.setIfInBounds_toArray, List.set_cons_zero, List.set_cons_succ]
    refine AnyE.one (i := 8) rfl (by kernel_rfl) (by kernel_rfl) (fun KK hK => ?_)
    go_simp
    refine hK.out _ _ ⟨fun h => (by cases h), ?_⟩
    clear hK
    try simp only [Act.put, List.setIfInBounds_toArray, List.set_cons_zero, List.set_cons_succ]
    refine AnyE.done (by kernel_rfl) (NoPanic.normal ?_) _
    go_wp2
    go_ret
    exact ⟨rfl, HQ.out⟩
  have q4 : (kind == 4) = false := by simpa using k4
  by_cases k5 : kind = 5
  · subst k5
    have hRR : R = deleteD d (nameN file) := by rw [HR.out, actD, if_neg (by decide), if_neg (by decide), if_neg (by decide), if_neg (by decide), if_pos rfl]
    subst hRR
    go_wp2_with fail
    refine (HNF W).out.mono ?_
    rintro e X ⟨rfl, bx⟩
    have HBX := Lib.hid bx
    clear bx
    go_wp2_with fail
    refine (delete_any (HDW.out.below HBX.out)).mono ?_
    intro e w2 ha
    have ha2 := AnsD.before (HB.out.trans (HBX.out.mono HB.out.size)) ha
    obtain ⟨rfl, hq⟩ := ha2
    have HQ := Lib.hid hq
    clear ha hq
    go_wp2
    go_ret
    exact ⟨rfl, HQ.out⟩
  have q5 : (kind == 5) = false := by simpa using k5
  have hRR : R = (0, d) := by rw [HR.out, actD, if_neg k1, if_neg k2, if_neg k3, if_neg k4, if_neg k5]
  subst hRR
  go_wp2
  go_ret
  exact ⟨rfl, O, HDW.out, Go4.of_below HB.out⟩
end Go.Proofs.Ytbheifelfeekmaa

namespace Go.Proofs.Ytbheifelfeekmaa
open Go.RowKit Go.MapKept Go.Sort
set_option linter.unusedVariables false
set_option linter.unusedSimpArgs false
variable {w w' W X : World} {O O' : Nat → Prop} {dB : Nat} {d : Dk4}
theorem Mad.go {d' : Dk4} {O2 : Nat → Prop} (h : Mad w X O dB d) (k : Dsk w' O2 dB d') (g : Go4 X w' O O2) : Mad w w' O2 dB d' :=
  ⟨k, h.bel.trans (g.below h.bel.size h.own), fun i hi => (g.new i hi).elim (h.own i) (fun q => Nat.le_trans h.bel.size q)⟩
theorem FLs.go {B n : Nat} {v : Value} {l : List (PF × Value)} (h : FLs w B v n l) (g : Go4 w w' O O') (hO : ∀ i, O i → i < B) : FLs w' B v n l := by
  refine ⟨h.len, ⟨h.row.1, ?_⟩, fun x hx => (h.dat x hx).kept (fun q hq => ⟨g.block q ?_ (fun z => by have := hO q z; have := (h.dat x hx).blk q hq; omega), (h.dat x hx).blk q hq⟩)⟩
  · rcases h.row.2 with h2 | ⟨q, cap, cur, h3, h4, h5, h6⟩
    · exact .inl h2
    · exact .inr ⟨q, cap, cur, h3, h4, by rw [g.block q (Array.getElem?_eq_some_iff.1 h5).1 (fun z => by have := hO q z; omega)]; exact h5, h6⟩
  · obtain ⟨cur, ht⟩ := (h.dat x hx).typ hq
    exact (Array.getElem?_eq_some_iff.1 ht).1
def crash1 (cuts : List Int) (t : Nat) (v : List Nat × Nat) : List Nat × Nat := if v.2 = v.1.length then v else (v.1.take (keepN v.2 v.1.length (cuts.getD t 0)), keepN v.2 v.1.length (cuts.getD t 0))
def tailsF (fs : List PF) (xs : List (List UInt8)) : Nat := (xs.filter (fun x => decide (((atP fs (ofL x)).getD ([], 0)).2 ≠ ((atP fs (ofL x)).getD ([], 0)).1.length))).length
theorem atP_set_eq {f : PF} : ∀ l : List PF, (∃ v, atP l f.1 = some v) → atP (setP l f) f.1 = some f.2
  | [], h => by obtain ⟨v, hv⟩ := h; cases hv
  | x :: xs, h => by
    by_cases e : x.1 = f.1
    · rw [setP, if_pos e, atP, if_pos rfl]
    · rw [atP, if_neg e] at h
      rw [setP, if_neg e, atP, if_neg e, atP_set_eq xs h]
theorem ofL_inj {a b : List UInt8} (h : ofL a = ofL b) : a = b := by rw [← nmL_ofL a, h, nmL_ofL]
theorem crashF_names (cuts : List Int) : ∀ (xs : List (List UInt8)) (t : Nat) (fs : List PF), (∀ x ∈ xs, ∃ v, atP fs (ofL x) = some v) → (crashF cuts xs t fs).2.map (·.1) = fs.map (·.1)
  | [], _, _, _ => rfl
  | x :: xs, t, fs, h => by
    obtain ⟨v, hv⟩ := h x (by simp)
    rw [crashF]
    split
    · exact crashF_names cuts xs t fs (fun y hy => h y (by simp [hy]))
    · rw [crashF_names cuts xs (t + 1) _ (fun y hy => atP_set_some _ ⟨_, hv⟩ (h y (by simp [hy])))]
      exact setP_names hv
theorem crashF_other (cuts : List Int) {s : ByteArray} : ∀ (xs : List (List UInt8)) (t : Nat) (fs : List PF), (∀ x ∈ xs, ∃ v, atP fs (ofL x) = some v) → (∀ x ∈ xs, ofL x ≠ s) → atP (crashF cuts xs t fs).2 s = atP fs s
  | [], _, _, _, _ => rfl
  | x :: xs, t, fs, h, hne => by
    obtain ⟨v, hv⟩ := h x (by simp)
    rw [crashF]
    split
    · exact crashF_other cuts xs t fs (fun y hy => h y (by simp [hy])) (fun y hy => hne y (by simp [hy]))
    · rw [crashF_other cuts xs (t + 1) _ (fun y hy => atP_set_some _ ⟨_, hv⟩ (h y (by simp [hy]))) (fun y hy => hne y (by simp [hy]))]
      exact atP_set_ne (hne x (by simp)) fs ⟨_, hv⟩
theorem tailsF_cons (fs : List PF) (x : List UInt8) (xs : List (List UInt8)) {v : List Nat × Nat} (hv : atP fs (ofL x) = some v) : tailsF fs (x :: xs) = (if v.2 = v.1.length then 0 else 1) + tailsF fs xs := by
  unfold tailsF
  rw [List.filter_cons, hv]
  by_cases h : v.2 = v.1.length
  · simp [h]
  · simp [h]
    omega
theorem tailsF_set {fs : List PF} {f : PF} (hf : ∃ v, atP fs f.1 = some v) : ∀ (xs : List (List UInt8)), (∀ x ∈ xs, f.1 ≠ ofL x) → tailsF (setP fs f) xs = tailsF fs xs := fun xs h => by
  unfold tailsF
  congr 1
  refine List.filter_congr (fun x hx => ?_)
  rw [atP_set_ne (h x hx) fs hf]
theorem crashF_at (cuts : List Int) : ∀ (xs : List (List UInt8)) (t : Nat) (fs : List PF), xs.Nodup → (∀ x ∈ xs, ∃ v, atP fs (ofL x) = some v) →
    (crashF cuts xs t fs).1 = t + tailsF fs xs ∧ ∀ i x v, xs[i]? = some x → atP fs (ofL x) = some v → atP (crashF cuts xs t fs).2 (ofL x) = some (crash1 cuts (t + tailsF fs (xs.take i)) v)
  | [], t, fs, _, _ => ⟨rfl, fun i x v h => by simp at h⟩
  | y :: ys, t, fs, hn, h => by
    rw [List.nodup_cons] at hn
    obtain ⟨u, hu⟩ := h y (by simp)
    have hys : ∀ x ∈ ys, ∃ v, atP fs (ofL x) = some v := fun x hx => h x (by simp [hx])
    have hne : ∀ x ∈ ys, ofL y ≠ ofL x := fun x hx e => hn.1 (by rw [ofL_inj e]; exact hx)
    have hcr : crashF cuts (y :: ys) t fs = if u.2 = u.1.length then crashF cuts ys t fs else crashF cuts ys (t + 1) (setP fs (ofL y, u.1.take (keepN u.2 u.1.length (cuts.getD t 0)), keepN u.2 u.1.length (cuts.getD t 0))) := by
      rw [crashF, hu]
      rfl
    rw [hcr, tailsF_cons fs y ys hu]
    by_cases he : u.2 = u.1.length
    · rw [if_pos he, if_pos he]
      have ih := crashF_at cuts ys t fs hn.2 hys
      refine ⟨by rw [ih.1]; omega, fun i x v hx hv => ?_⟩
      cases i with
      | zero =>
        simp at hx
        subst hx
        rw [hu] at hv
        cases hv
        rw [crashF_other cuts ys t fs hys (fun x hx => Ne.symm (hne x hx)), hu]
        simp [crash1, he]
      | succ i =>
        rw [ih.2 i x v (by simpa using hx) hv, List.take_succ_cons, tailsF_cons fs y _ hu, if_pos he]
        simp
    · rw [if_neg he, if_neg he]
      have hset : ∀ x ∈ ys, ∃ v, atP (setP fs (ofL y, u.1.take (keepN u.2 u.1.length (cuts.getD t 0)), keepN u.2 u.1.length (cuts.getD t 0))) (ofL x) = some v := fun x hx => atP_set_some _ ⟨_, hu⟩ (hys x hx)
      have ih := crashF_at cuts ys (t + 1) _ hn.2 hset
      refine ⟨by rw [ih.1, tailsF_set ⟨_, hu⟩ ys hne]; omega, fun i x v hx hv => ?_⟩
      cases i with
      | zero =>
        simp at hx
        subst hx
        rw [hu] at hv
        cases hv
        rw [crashF_other cuts ys _ _ hset (fun x hx => Ne.symm (hne x hx)), atP_set_eq fs ⟨_, hu⟩]
        have h0 : tailsF fs (List.take 0 (y :: ys)) = 0 := rfl
        rw [h0]
        simp [crash1, he]
      | succ i =>
        have hxi : ys[i]? = some x := by simpa using hx
        have hxm := List.mem_of_getElem? hxi
        rw [ih.2 i x v hxi (by rw [atP_set_ne (hne x hxm) fs ⟨_, hu⟩]; exact hv), List.take_succ_cons, tailsF_cons fs y _ hu, if_neg he, tailsF_set ⟨_, hu⟩ _ (fun z hz => hne z (List.mem_of_mem_take hz))]
        congr 2
        omega
end Go.Proofs.Ytbheifelfeekmaa
