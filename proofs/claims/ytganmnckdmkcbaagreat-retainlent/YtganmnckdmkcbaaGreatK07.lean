import Derived.Test.YtganmnckdmkcbaaGreatK06
namespace Go.Proofs.YtganmnckdmkcbaaGreat
open Go.RowKit
set_option linter.unusedVariables false
variable {W0 W : World} {wb g rb : Nat} {fv : Value} {fs : List FamD} {clock : Int} {T : World → (Nat → Prop) → List Vd → Prop} {O : Nat → Prop} {s : SpD} {vs : List Vd} {e : EntD}

set_option maxRecDepth 100000 in
set_option maxHeartbeats 4000000 in
theorem step_any (ht0 : Teller g rb T) (h : Wk W0 wb g rb fv fs clock T W O s vs) (he : ∀ Z, Fr0 W0 wb rb Z → EntD.Ok Z e) (hf : Fit fs.length e.dat) (hv : vs.length + 4 < 1353245080339) (hfs : ∀ f ∈ fs, 0 ≤ f.tl ∧ f.tl ≤ 1099511627776) (hr : s.rank ≤ vs.length) (hwb : s.waiting = true → s.begun = true) :
    Calls Tryz.prog 95 #[.pointer (some ⟨wb, 0, none⟩), .agg e.cells] W fun r W' => r = .returned (.tuple #[]) ∧ ∃ O' s', Wk W0 wb g rb fv fs clock T W' O' s' (vs ++ (stepS (mt fs) clock s.dat e.dat).1) ∧ s'.dat = (stepS (mt fs) clock s.dat e.dat).2 := by
  have A := (Below.refl W.heap.size W).alloc (Nat.le_refl _) (.cells e.cells 84)
  have eb := EBox.new W e
  have h1 := h.later ht0 A
  have hfr := h.fresh ht0 (Nat.le_refl W.heap.size)
  have hlt := h.lastlt
  obtain ⟨qb, hqb⟩ : ∃ q, q = W.heap.size := ⟨_, rfl⟩
  have hqb' := hqb.symm
  rw [← hqb] at eb hfr
  have K0 := h1.ext eb hfr (by rw [hqb]; exact h.fr.1) (fun k hk => by have := (hlt k hk).2; omega)
  have ht : Teller g rb (TE T qb (.cells e.cells 84 (0, 0))) := ht0.ext
  obtain ⟨X, hX⟩ : ∃ X, X = W.alloc (.cells e.cells 84) := ⟨_, rfl⟩
  rw [← hX] at K0
  have HX := Lib.hid hX
  have HT := Lib.hid ht
  have HF := Lib.hid hf
  have HE := Lib.hid he
  have HFs := Lib.hid hfs
  have HK0 := Lib.hid K0
  have rk0 : 0 ≤ s.dat.rank := h.rank.1
  have eg := ht0.enters
  have HRk := Lib.hid (enter_rank (mt fs) clock s.dat e.dat rk0)
  have HCE : Hid (∀ Z O' s' us, Wk W0 wb g rb fv fs clock (TE T qb (.cells e.cells 84 (0, 0))) Z O' s' us → Z.cell? ⟨qb, 0, none⟩ = some e.vr ∧ Z.cell? ⟨qb, 1, none⟩ = some (.int .i64 e.fam) ∧ Z.cell? ⟨qb, 2, none⟩ = some e.vq ∧ Z.cell? ⟨qb, 3, none⟩ = some (.int .i64 e.ts) ∧ Z.cell? ⟨qb, 4, none⟩ = some (.int .i64 e.seq) ∧ Z.cell? ⟨qb, 5, none⟩ = some (.int .i64 e.kind) ∧ Z.cell? ⟨qb, 6, none⟩ = some e.vv) := fun Z O' s' us k => EBox.cells7 k.tell.1
  obtain ⟨x0, x1, x2, x3, x4, x5, x6⟩ := HCE.out _ _ _ _ K0
  have HC1 := Lib.hid (enter_any HT.out K0 (HE.out _ K0.fr) (by omega) HFs.out hr hwb)
  have HWb := Lib.hid hwb
  clear hwb
  obtain ⟨gB, hgB⟩ : ∃ b, b = sameGrp s.dat e.dat := ⟨_, rfl⟩
  rw [← hgB] at HC1
  have HgB := Lib.hid hgB
  obtain ⟨EN, hEN⟩ : ∃ EN, EN = enterS (mt fs) clock s.dat e.dat := ⟨_, rfl⟩
  rw [← hEN] at HC1 HRk
  have HEN := Lib.hid hEN
  have HST : Hid (stepS (mt fs) clock s.dat e.dat = if e.kind = 5 ∨ e.kind = 4 then (EN.1 ++ [(stretchS EN.2 e.dat).1], rememberS (stretchS EN.2 e.dat).2 e.dat)
      else if gB then (if e.kind ≠ 3 then (EN.1 ++ ((resolveS (mt fs) clock EN.2 2).1 ++ [⟨e.dat, 1, 0⟩]), rememberS (resolveS (mt fs) clock EN.2 2).2 e.dat) else (EN.1 ++ [⟨e.dat, 1, 0⟩], rememberS EN.2 e.dat))
      else if e.kind = 3 then (EN.1, rememberS { EN.2 with waiting := true, seq := e.seq } e.dat)
      else (EN.1 ++ [(decideS (mt fs) clock EN.2 e.dat).1], rememberS (decideS (mt fs) clock EN.2 e.dat).2 e.dat)) := by unfold Hid; rw [hgB, hEN]; rfl
  rw [hX] at x0 x1 x2 x3 x4 x5 x6
  unfold EntD.cells at HX HC1 x0 x1 x2 x3 x4 x5 x6 ⊢
  clear ht0 ht h he hf hfs A hX h1 eb hqb K0 hgB hEN hfr hlt HK0
  go_enter Tryz.func95, Tryz.ntmps95
  go_wp2_with fail
  rw [← HX.out]
  (try rw [hqb'])
  refine Calls.mono HC1.out ?_
  rintro z X1 ⟨rfl, O1, s1, K1, d1, l1⟩
  clear x0 x1 x2 x3 x4 x5 x6 HC1 HX hqb'
  obtain ⟨x0, x1, x2, x3, x4, x5, x6⟩ := HCE.out _ _ _ _ K1
  have hv1 : (vs ++ EN.1).length < 1353245080336 := by have := HRk.out.2; rw [List.length_append]; omega
  have hr1 : s1.rank ≤ (vs ++ EN.1).length := by
    have q := HRk.out.1
    have q2 : s1.rank = EN.2.rank := by rw [← d1]; rfl
    have q3 : s.dat.rank = s.rank := rfl
    rw [List.length_append]; omega
  have HK1 := Lib.hid (And.intro K1 d1)
  clear K1 d1 l1
  by_cases h5 : e.kind = 5
  · have hb5 : (e.kind == 5) = true := by simp [h5]
    have H5 := Lib.hid h5
    clear h5
    have HC2 := Lib.hid (stretch_any HT.out HK1.out.1 (HE.out _ HK1.out.1.fr) HF.out (by omega))
    rw [HK1.out.2] at HC2
    unfold EntD.cells at HC2
    go_wp2_with fail
    refine Calls.mono HC2.out ?_
    rintro z X2 ⟨rfl, O2, s2, K2, d2, l2⟩
    have HK2 := Lib.hid (And.intro K2 d2)
    clear x0 x1 x2 x3 x4 x5 x6 HC2 K2 d2 l2
    have HCr := Lib.hid (remember_any HT.out HK2.out.1 HE.out HF.out)
    obtain ⟨x0, x1, x2, x3, x4, x5, x6⟩ := HCE.out _ _ _ _ HK2.out.1
    unfold EntD.cells at HCr
    go_wp2_with fail
    refine Calls.mono HCr.out ?_
    rintro z X9 ⟨rfl, s9, K9, d9⟩
    have HK9 := Lib.hid (And.intro K9 d9)
    clear x0 x1 x2 x3 x4 x5 x6 HCr K9 d9
    go_wp2
    go_end0
    have eS : stepS (mt fs) clock s.dat e.dat = (EN.1 ++ [(stretchS EN.2 e.dat).1], rememberS (stretchS EN.2 e.dat).2 e.dat) := by rw [HST.out]; rw [if_pos (.inl H5.out)]
    refine ⟨rfl, (fun i => O2 i ∧ i ≠ qb), s9, ?_, ?_⟩
    · rw [eS]
      have k := HK9.out.1.unext
      (try simp only [List.append_assoc] at k)
      exact k
    · rw [eS, HK9.out.2, HK2.out.2]
      try rfl
  · have hb5 : (e.kind == 5) = false := by simp [h5]
    have H5 := Lib.hid h5
    clear h5
    by_cases h4 : e.kind = 4
    · have hb4 : (e.kind == 4) = true := by simp [h4]
      have H4 := Lib.hid h4
      clear h4
      have HC2 := Lib.hid (stretch_any HT.out HK1.out.1 (HE.out _ HK1.out.1.fr) HF.out (by omega))
      rw [HK1.out.2] at HC2
      unfold EntD.cells at HC2
      go_wp2_with fail
      refine Calls.mono HC2.out ?_
      rintro z X2 ⟨rfl, O2, s2, K2, d2, l2⟩
      have HK2 := Lib.hid (And.intro K2 d2)
      clear x0 x1 x2 x3 x4 x5 x6 HC2 K2 d2 l2
      have HCr := Lib.hid (remember_any HT.out HK2.out.1 HE.out HF.out)
      obtain ⟨x0, x1, x2, x3, x4, x5, x6⟩ := HCE.out _ _ _ _ HK2.out.1
      unfold EntD.cells at HCr
      go_wp2_with fail
      refine Calls.mono HCr.out ?_
      rintro z X9 ⟨rfl, s9, K9, d9⟩
      have HK9 := Lib.hid (And.intro K9 d9)
      clear x0 x1 x2 x3 x4 x5 x6 HCr K9 d9
      go_wp2
      go_end0
      have eS : stepS (mt fs) clock s.dat e.dat = (EN.1 ++ [(stretchS EN.2 e.dat).1], rememberS (stretchS EN.2 e.dat).2 e.dat) := by rw [HST.out]; rw [if_pos (.inr H4.out)]
      refine ⟨rfl, (fun i => O2 i ∧ i ≠ qb), s9, ?_, ?_⟩
      · rw [eS]
        have k := HK9.out.1.unext
        (try simp only [List.append_assoc] at k)
        exact k
      · rw [eS, HK9.out.2, HK2.out.2]
        try rfl
    · have hb4 : (e.kind == 4) = false := by simp [h4]
      have H54 : Hid (¬ (e.kind = 5 ∨ e.kind = 4)) := fun k => k.elim H5.out h4
      clear h4
      cases gB with
      | true =>
        by_cases h3 : e.kind = 3
        · have hb3 : (e.kind != 3) = false := by simp [h3]
          have hb3' : (e.kind == 3) = true := by simp [h3]
          have H3 := Lib.hid h3
          clear h3
          have D4 : Below X1.heap.size X1 X1.drew := (Below.refl _ _).drew
          have K4 := HK1.out.1.later HT.out D4
          have HK4 := Lib.hid K4
          have HC4 := Lib.hid (HT.out.say 1 0 K4.tell (HE.out _ K4.fr) HF.out (by omega))
          have z2 := K4.box.c2
          have ze := HCE.out _ _ _ _ K4
          clear K4
          unfold vdV at HC4
          go_upto_region 8 with fail
          go_region_held3 (fun Z => Z.cell? ⟨wb, 2, none⟩ = some (.func (.func g) #[.pointer (some ⟨rb, 0, none⟩)] #[]) ∧ Z.cell? ⟨qb, 0, none⟩ = some e.vr ∧ Z.cell? ⟨qb, 1, none⟩ = some (.int .i64 e.fam) ∧ Z.cell? ⟨qb, 2, none⟩ = some e.vq ∧ Z.cell? ⟨qb, 3, none⟩ = some (.int .i64 e.ts) ∧ Z.cell? ⟨qb, 4, none⟩ = some (.int .i64 e.seq) ∧ Z.cell? ⟨qb, 5, none⟩ = some (.int .i64 e.kind) ∧ Z.cell? ⟨qb, 6, none⟩ = some e.vv) (first | exact ⟨K5.box.c2, HCE.out _ _ _ _ K5⟩ | exact ⟨z2, ze⟩) ((refine Calls.mono HC4.out ?_; rintro z X2 ⟨rfl, O2, t2, f2⟩; have K5 := HK4.out.told t2 f2))
          have HK2 := Lib.hid (And.intro K5 HK1.out.2)
          clear x0 x1 x2 x3 x4 x5 x6 HC4 K5 t2 f2 z2 ze D4 HK4
          have HCr := Lib.hid (remember_any HT.out HK2.out.1 HE.out HF.out)
          obtain ⟨x0, x1, x2, x3, x4, x5, x6⟩ := HCE.out _ _ _ _ HK2.out.1
          unfold EntD.cells at HCr
          go_wp2_with fail
          refine Calls.mono HCr.out ?_
          rintro z X9 ⟨rfl, s9, K9, d9⟩
          have HK9 := Lib.hid (And.intro K9 d9)
          clear x0 x1 x2 x3 x4 x5 x6 HCr K9 d9
          go_wp2
          go_end0
          have eS : stepS (mt fs) clock s.dat e.dat = (EN.1 ++ [⟨e.dat, 1, 0⟩], rememberS EN.2 e.dat) := by rw [HST.out]; rw [if_neg H54.out, if_pos trivial, if_neg (fun k => k H3.out)]
          refine ⟨rfl, (fun i => O2 i ∧ i ≠ qb), s9, ?_, ?_⟩
          · rw [eS]
            have k := HK9.out.1.unext
            (try simp only [List.append_assoc] at k)
            exact k
          · rw [eS, HK9.out.2, HK2.out.2]
            try rfl
        · have hb3 : (e.kind != 3) = true := by simp [h3]
          have hb3' : (e.kind == 3) = false := by simp [h3]
          have H3 := Lib.hid h3
          clear h3
          have hEN : EN = ([], s.dat) := by rw [HEN.out]; unfold enterS; rw [if_pos HgB.out.symm]
          have hwb1 : s1.waiting = true → s1.begun = true := by
            have q := HK1.out.2
            rw [hEN] at q
            have q1 : s1.waiting = s.waiting := congrArg Sp.waiting q
            have q2 : s1.begun = s.begun := congrArg Sp.begun q
            rw [q1, q2]; exact HWb.out
          clear hEN
          have HC3 := Lib.hid (resolve_any HT.out HK1.out.1 (by omega) HFs.out hr1 hwb1 2)
          rw [HK1.out.2] at HC3
          clear hwb1
          go_wp2_with fail
          refine Calls.mono HC3.out ?_
          rintro z X3 ⟨rfl, O3, s3, K3, d3, l3⟩
          have HKr := Lib.hid (And.intro K3 d3)
          have hv3 : (vs ++ EN.1 ++ (resolveS (mt fs) clock EN.2 2).1).length < 1353245080339 := by have := (resolve_rank (mt fs) clock EN.2 2).2; rw [List.length_append]; omega
          clear x0 x1 x2 x3 x4 x5 x6 HC3 K3 d3 l3
          obtain ⟨x0, x1, x2, x3, x4, x5, x6⟩ := HCE.out _ _ _ _ HKr.out.1
          have D4 : Below X3.heap.size X3 X3.drew := (Below.refl _ _).drew
          have K4 := HKr.out.1.later HT.out D4
          have HK4 := Lib.hid K4
          have HC4 := Lib.hid (HT.out.say 1 0 K4.tell (HE.out _ K4.fr) HF.out (by omega))
          have z2 := K4.box.c2
          have ze := HCE.out _ _ _ _ K4
          clear K4
          unfold vdV at HC4
          go_upto_region 8 with fail
          go_region_held3 (fun Z => Z.cell? ⟨wb, 2, none⟩ = some (.func (.func g) #[.pointer (some ⟨rb, 0, none⟩)] #[]) ∧ Z.cell? ⟨qb, 0, none⟩ = some e.vr ∧ Z.cell? ⟨qb, 1, none⟩ = some (.int .i64 e.fam) ∧ Z.cell? ⟨qb, 2, none⟩ = some e.vq ∧ Z.cell? ⟨qb, 3, none⟩ = some (.int .i64 e.ts) ∧ Z.cell? ⟨qb, 4, none⟩ = some (.int .i64 e.seq) ∧ Z.cell? ⟨qb, 5, none⟩ = some (.int .i64 e.kind) ∧ Z.cell? ⟨qb, 6, none⟩ = some e.vv) (first | exact ⟨K5.box.c2, HCE.out _ _ _ _ K5⟩ | exact ⟨z2, ze⟩) ((refine Calls.mono HC4.out ?_; rintro z X2 ⟨rfl, O2, t2, f2⟩; have K5 := HK4.out.told t2 f2))
          have HK2 := Lib.hid (And.intro K5 HKr.out.2)
          clear x0 x1 x2 x3 x4 x5 x6 HC4 K5 t2 f2 z2 ze D4 HK4
          have HCr := Lib.hid (remember_any HT.out HK2.out.1 HE.out HF.out)
          obtain ⟨x0, x1, x2, x3, x4, x5, x6⟩ := HCE.out _ _ _ _ HK2.out.1
          unfold EntD.cells at HCr
          go_wp2_with fail
          refine Calls.mono HCr.out ?_
          rintro z X9 ⟨rfl, s9, K9, d9⟩
          have HK9 := Lib.hid (And.intro K9 d9)
          clear x0 x1 x2 x3 x4 x5 x6 HCr K9 d9
          go_wp2
          go_end0
          have eS : stepS (mt fs) clock s.dat e.dat = (EN.1 ++ ((resolveS (mt fs) clock EN.2 2).1 ++ [⟨e.dat, 1, 0⟩]), rememberS (resolveS (mt fs) clock EN.2 2).2 e.dat) := by rw [HST.out]; rw [if_neg H54.out, if_pos trivial, if_pos H3.out]
          refine ⟨rfl, (fun i => O2 i ∧ i ≠ qb), s9, ?_, ?_⟩
          · rw [eS]
            have k := HK9.out.1.unext
            (try simp only [List.append_assoc] at k)
            exact k
          · rw [eS, HK9.out.2, HK2.out.2]
            try rfl
      | false =>
        by_cases h3 : e.kind = 3
        · have hb3' : (e.kind == 3) = true := by simp [h3]
          have H3 := Lib.hid h3
          clear h3
          have c14 := HK1.out.1.box.c14
          have c15 := HK1.out.1.box.c15
          have f14 := HK1.out.1.box.fz 14
          have f15 := HK1.out.1.box.fz 15
          have hne : wb ≠ qb := fun k => HK1.out.1.notO (by rw [k]; exact HK1.out.1.tell.2.1)
          have hne' : qb ≠ wb := hne.symm
          go_upto_region 10 with fail
          go_region
          have hG : X1.grownBy (((X1.setCell ⟨wb, 14, none⟩ (.bool true)).setCell ⟨wb, 15, none⟩ (.int .i64 e.seq)).drew) (some wb) := (grown2 _ _ _ _ _ _).drew
          have K2 := HK1.out.1.put HT.out (((HK1.out.1.box.setWaiting true).setSeq e.seq).keep (drew_heap _ _)) hG rfl HK1.out.1.rank HK1.out.1.mask HK1.out.1.wait
          have HK2 : Hid (Wk W0 wb g rb fv fs clock (TE T qb (.cells e.cells 84 (0, 0))) (((X1.setCell ⟨wb, 14, none⟩ (.bool true)).setCell ⟨wb, 15, none⟩ (.int .i64 e.seq)).drew) O1 { s1 with waiting := true, seq := e.seq } (vs ++ EN.1) ∧ SpD.dat { s1 with waiting := true, seq := e.seq } = { EN.2 with waiting := true, seq := e.seq }) := ⟨K2, by rw [← HK1.out.2]; rfl⟩
          obtain ⟨X2, hX2⟩ : ∃ X2, X2 = ((X1.setCell ⟨wb, 14, none⟩ (.bool true)).setCell ⟨wb, 15, none⟩ (.int .i64 e.seq)).drew := ⟨_, rfl⟩
          rw [← hX2] at HK2
          have HX2 := Lib.hid hX2
          obtain ⟨O2, hO2⟩ : ∃ O2, O2 = O1 := ⟨_, rfl⟩
          rw [← hO2] at HK2
          clear hX2 K2 hG c14 c15 f14 f15 x0 x1 x2 x3 x4 x5 x6 hO2
          go_upto_region 11 with fail
          rw [← HX2.out]
          clear HX2
          have HCr := Lib.hid (remember_any HT.out HK2.out.1 HE.out HF.out)
          obtain ⟨x0, x1, x2, x3, x4, x5, x6⟩ := HCE.out _ _ _ _ HK2.out.1
          unfold EntD.cells at HCr
          go_wp2_with fail
          refine Calls.mono HCr.out ?_
          rintro z X9 ⟨rfl, s9, K9, d9⟩
          have HK9 := Lib.hid (And.intro K9 d9)
          clear x0 x1 x2 x3 x4 x5 x6 HCr K9 d9
          go_wp2
          go_end0
          have eS : stepS (mt fs) clock s.dat e.dat = (EN.1, rememberS { EN.2 with waiting := true, seq := e.seq } e.dat) := by rw [HST.out]; rw [if_neg H54.out, if_neg (by simp), if_pos H3.out]
          refine ⟨rfl, (fun i => O2 i ∧ i ≠ qb), s9, ?_, ?_⟩
          · rw [eS]
            have k := HK9.out.1.unext
            (try simp only [List.append_assoc] at k)
            exact k
          · rw [eS, HK9.out.2, HK2.out.2]
            try rfl
        · have hb3 : (e.kind == 3) = false := by simp [h3]
          have H3 := Lib.hid h3
          clear h3
          have HC2 := Lib.hid (decide_any HT.out HK1.out.1 (HE.out _ HK1.out.1.fr) HF.out (by omega) HFs.out hr1)
          rw [HK1.out.2] at HC2
          unfold EntD.cells at HC2
          go_wp2_with fail
          refine Calls.mono HC2.out ?_
          rintro z X2 ⟨rfl, O2, s2, K2, d2, l2⟩
          have HK2 := Lib.hid (And.intro K2 d2)
          clear x0 x1 x2 x3 x4 x5 x6 HC2 K2 d2 l2
          have HCr := Lib.hid (remember_any HT.out HK2.out.1 HE.out HF.out)
          obtain ⟨x0, x1, x2, x3, x4, x5, x6⟩ := HCE.out _ _ _ _ HK2.out.1
          unfold EntD.cells at HCr
          go_wp2_with fail
          refine Calls.mono HCr.out ?_
          rintro z X9 ⟨rfl, s9, K9, d9⟩
          have HK9 := Lib.hid (And.intro K9 d9)
          clear x0 x1 x2 x3 x4 x5 x6 HCr K9 d9
          go_wp2
          go_end0
          have eS : stepS (mt fs) clock s.dat e.dat = (EN.1 ++ [(decideS (mt fs) clock EN.2 e.dat).1], rememberS (decideS (mt fs) clock EN.2 e.dat).2 e.dat) := by rw [HST.out]; rw [if_neg H54.out, if_neg (by simp), if_neg H3.out]
          refine ⟨rfl, (fun i => O2 i ∧ i ≠ qb), s9, ?_, ?_⟩
          · rw [eS]
            have k := HK9.out.1.unext
            (try simp only [List.append_assoc] at k)
            exact k
          · rw [eS, HK9.out.2, HK2.out.2]
            try rfl
end Go.Proofs.YtganmnckdmkcbaaGreat

namespace Go.Proofs.YtganmnckdmkcbaaGreat
open Go.RowKit
set_option linter.unusedVariables false
variable {W0 W : World} {wb g rb : Nat} {fv : Value} {fs : List FamD} {clock : Int} {T : World → (Nat → Prop) → List Vd → Prop} {O : Nat → Prop} {s : SpD} {vs : List Vd} {e : EntD}
def spZ : SpD := ⟨false, ⟨.slice none 0 0, 0, .slice none 0 0, 0, 0, 0, .slice none 0 0, [], [], []⟩, 0, 0, 0, false, 0⟩
theorem WBx.zero {w : World} {b : Nat} {fv tv : Value} {clock : Int} {s : SpD} (h : WBx w b fv clock tv s) : WBx (((((((((((((w.setCell ⟨b, 3, none⟩ (.bool false)).setCell ⟨b, 4, none⟩ (.slice none 0 0)).setCell ⟨b, 5, none⟩ (.int .i64 0)).setCell ⟨b, 6, none⟩ (.slice none 0 0)).setCell ⟨b, 7, none⟩ (.int .i64 0)).setCell ⟨b, 8, none⟩ (.int .i64 0)).setCell ⟨b, 9, none⟩ (.int .i64 0)).setCell ⟨b, 10, none⟩ (.slice none 0 0)).setCell ⟨b, 11, none⟩ (.int .i64 0)).setCell ⟨b, 12, none⟩ (.int .i64 0)).setCell ⟨b, 13, none⟩ (.int .i64 0)).setCell ⟨b, 14, none⟩ (.bool false)).setCell ⟨b, 15, none⟩ (.int .i64 0)) b fv clock tv spZ := by
  have h1 := h.set (i := 3) (v := .bool false) (s' := { s with begun := false }) rfl
  have h2 := h1.set (i := 4) (v := .slice none 0 0) (s' := { s with begun := false, last := { s.last with vr := .slice none 0 0 } }) rfl
  have h3 := h2.set (i := 5) (v := .int .i64 0) (s' := { s with begun := false, last := { s.last with vr := .slice none 0 0, fam := 0 } }) rfl
  have h4 := h3.set (i := 6) (v := .slice none 0 0) (s' := { s with begun := false, last := { s.last with vr := .slice none 0 0, fam := 0, vq := .slice none 0 0 } }) rfl
  have h5 := h4.set (i := 7) (v := .int .i64 0) (s' := { s with begun := false, last := { s.last with vr := .slice none 0 0, fam := 0, vq := .slice none 0 0, ts := 0 } }) rfl
  have h6 := h5.set (i := 8) (v := .int .i64 0) (s' := { s with begun := false, last := { s.last with vr := .slice none 0 0, fam := 0, vq := .slice none 0 0, ts := 0, seq := 0 } }) rfl
  have h7 := h6.set (i := 9) (v := .int .i64 0) (s' := { s with begun := false, last := { s.last with vr := .slice none 0 0, fam := 0, vq := .slice none 0 0, ts := 0, seq := 0, kind := 0 } }) rfl
  have h8 := h7.set (i := 10) (v := .slice none 0 0) (s' := { s with begun := false, last := spZ.last }) rfl
  exact ((((h8.setFamily 0).setMask 0).setRank 0).setWaiting false).setSeq 0
set_option maxRecDepth 100000 in
set_option maxHeartbeats 4000000 in
theorem end_any (ht : Teller g rb T) (h : Wk W0 wb g rb fv fs clock T W O s vs) (hv : vs.length < 1353245080339) (hfs : ∀ f ∈ fs, 0 ≤ f.tl ∧ f.tl ≤ 1099511627776) (hr : s.rank ≤ vs.length) (hwb : s.waiting = true → s.begun = true) :
    Calls Tryz.prog 96 #[.pointer (some ⟨wb, 0, none⟩)] W fun r W' => r = .returned (.tuple #[]) ∧ ∃ O', Wk W0 wb g rb fv fs clock T W' O' spZ (vs ++ (resolveS (mt fs) clock s.dat 3).1) := by
  have HC := Lib.hid (resolve_any ht h hv hfs hr hwb 3)
  have HT := Lib.hid ht
  clear ht h hfs hwb
  go_enter Tryz.func96, Tryz.ntmps96
  go_wp2_with fail
  refine Calls.mono HC.out ?_
  rintro z X1 ⟨rfl, O1, s1, K1, d1, l1⟩
  have HK1 := Lib.hid K1
  obtain ⟨aL, nL, cL, eL⟩ := rd_slice K1.ok.1
  obtain ⟨aQ, nQ, cQ, eQ⟩ := rd_slice K1.ok.2.1
  obtain ⟨aV, nV, cV, eV⟩ := rd_slice K1.ok.2.2
  have c3 := K1.box.c3
  obtain ⟨c4, c5, c6, c7, c8, c9, c10⟩ := K1.box.last7
  rw [eL] at c4
  rw [eQ] at c6
  rw [eV] at c10
  have c11 := K1.box.c11
  have c12 := K1.box.c12
  have c13 := K1.box.c13
  have c14 := K1.box.c14
  have c15 := K1.box.c15
  have f3 := K1.box.fz 3
  have f4 := K1.box.fz 4
  have f5 := K1.box.fz 5
  have f6 := K1.box.fz 6
  have f7 := K1.box.fz 7
  have f8 := K1.box.fz 8
  have f9 := K1.box.fz 9
  have f10 := K1.box.fz 10
  have f11 := K1.box.fz 11
  have f12 := K1.box.fz 12
  have f13 := K1.box.fz 13
  have f14 := K1.box.fz 14
  have f15 := K1.box.fz 15
  clear K1 d1 l1 eL eQ eV HC
  have hG : X1.grownBy (((((((((((((X1.setCell ⟨wb, 3, none⟩ (.bool false)).setCell ⟨wb, 4, none⟩ (.slice none 0 0)).setCell ⟨wb, 5, none⟩ (.int .i64 0)).setCell ⟨wb, 6, none⟩ (.slice none 0 0)).setCell ⟨wb, 7, none⟩ (.int .i64 0)).setCell ⟨wb, 8, none⟩ (.int .i64 0)).setCell ⟨wb, 9, none⟩ (.int .i64 0)).setCell ⟨wb, 10, none⟩ (.slice none 0 0)).setCell ⟨wb, 11, none⟩ (.int .i64 0)).setCell ⟨wb, 12, none⟩ (.int .i64 0)).setCell ⟨wb, 13, none⟩ (.int .i64 0)).setCell ⟨wb, 14, none⟩ (.bool false)).setCell ⟨wb, 15, none⟩ (.int .i64 0)) (some wb) :=
    g_trans (g_trans (g_trans (g_trans (g_trans (grown8 _ _ _ _ _ _ _ _ _ _ _ _ _ _ _ _ _ _) (grown1 _ _ _ _)) (grown1 _ _ _ _)) (grown1 _ _ _ _)) (grown1 _ _ _ _)) (grown1 _ _ _ _)
  have hB := HK1.out.box.zero
  have hKp := HK1.out.put HT.out (s' := { s1 with rank := s1.rank }) (W' := X1) HK1.out.box (World.grownBy.refl _ _) rfl HK1.out.rank HK1.out.mask HK1.out.wait
  obtain ⟨V, hV⟩ : ∃ V, V = ((((((((((((X1.setCell ⟨wb, 3, none⟩ (.bool false)).setCell ⟨wb, 4, none⟩ (.slice none 0 0)).setCell ⟨wb, 5, none⟩ (.int .i64 0)).setCell ⟨wb, 6, none⟩ (.slice none 0 0)).setCell ⟨wb, 7, none⟩ (.int .i64 0)).setCell ⟨wb, 8, none⟩ (.int .i64 0)).setCell ⟨wb, 9, none⟩ (.int .i64 0)).setCell ⟨wb, 10, none⟩ (.slice none 0 0)).setCell ⟨wb, 11, none⟩ (.int .i64 0)).setCell ⟨wb, 12, none⟩ (.int .i64 0)).setCell ⟨wb, 13, none⟩ (.int .i64 0)).setCell ⟨wb, 14, none⟩ (.bool false)).setCell ⟨wb, 15, none⟩ (.int .i64 0) := ⟨_, rfl⟩
  rw [← hV] at hG hB
  have HGB := Lib.hid (And.intro hG hB)
  have HV := Lib.hid hV
  clear hG hB hV hKp
  go_wp2
  go_end0
  rw [← HV.out]
  obtain ⟨hG, hB⟩ := HGB.out
  have h := HK1.out
  refine ⟨rfl, O1, hB, h.fam, HT.out.keep h.tell (fun i hi => hG.block i (HT.out.lt h.tell hi) (fun e => by cases e; exact h.notO hi)) hG.size, ⟨⟨rfl, World.ownsRow_nil _ _ _ _⟩, ⟨rfl, World.ownsRow_nil _ _ _ _⟩, ⟨rfl, World.ownsRow_nil _ _ _ _⟩⟩, ⟨(fun k hk => by cases hk), (fun k hk => by cases hk)⟩, (fun k hk => by rcases hk with hk | hk | hk <;> cases hk), h.low, h.wlow, ⟨Int.le_refl 0, by show (0 : Int) ≤ _; omega⟩, ⟨Int.le_refl 0, Int.le_refl 0⟩, ⟨by simp [spZ, Bys], by simp [spZ, Bys], by simp [spZ, Bys]⟩, ⟨by simp [spZ], by simp [spZ], by simp [spZ]⟩, (fun k => by cases k), hG.os.trans h.os, hG.tape.trans h.tape, hG.output.trans h.output, Nat.le_trans h.fr.1 hG.size, fun i hi k1 k2 => ?_⟩
  rw [hG.block i (Nat.lt_of_lt_of_le hi h.fr.1) (fun e => by cases e; exact k1 rfl)]
  exact h.fr.2 i hi k1 k2
end Go.Proofs.YtganmnckdmkcbaaGreat

namespace Go.Proofs.YtganmnckdmkcbaaGreat
open Go.RowKit
set_option linter.unusedVariables false

theorem und_ents3 : Tryz.prog.underlying 28 = some (.slice 84) := by kernel_rfl
theorem info_ent3 : (Tryz.prog.info? 84).map (fun i => (i.zero, i.size, i.bytes)) = some (some (.agg #[.slice none 0 0, .int .i64 0, .slice none 0 0, .int .i64 0, .int .i64 0, .int .i64 0, .slice none 0 0]), 7, 104) := by kernel_rfl
def evals (xs : List EntD) : List Value := (xs.map fun e => e.cells.toList).flatten
theorem evals_snoc (xs : List EntD) (x : EntD) : evals (xs ++ [x]) = evals xs ++ x.cells.toList := by simp [evals]
def Dsj (x y : EntD) : Prop := ∀ g, (x.vr.ownBlock = some g ∨ x.vq.ownBlock = some g ∨ x.vv.ownBlock = some g) → ¬ (y.vr.ownBlock = some g ∨ y.vq.ownBlock = some g ∨ y.vv.ownBlock = some g)
structure Rw (w : World) (N : Nat) (v : Value) (xs : List EntD) (O : Nat → Prop) : Prop where
  row : w.ownsRow N 84 7 v xs.length (evals xs)
  ents : ∀ x ∈ xs, O3 w N x
  ap : xs.Pairwise Dsj
  rowO : ∀ k, v.ownBlock = some k → O k
  entO : ∀ x ∈ xs, ∀ k, x.vr.ownBlock = some k ∨ x.vq.ownBlock = some k ∨ x.vv.ownBlock = some k → O k
section
variable {w w' : World} {N : Nat} {v : Value} {xs : List EntD} {O O' : Nat → Prop}
theorem row_same {B n s : Nat} {e : TypeId} {u : Value} {vs : List Value} (h : w.ownsRow B e s u n vs) (k : ∀ g, u.ownBlock = some g → w'.heap[g]? = w.heap[g]?) : w'.ownsRow B e s u n vs := by
  refine ⟨h.1, ?_⟩
  rcases h.2 with h2 | ⟨g, cap, cur, h3, h4, h5, h6⟩
  · exact .inl h2
  · exact .inr ⟨g, cap, cur, h3, h4, by rw [k g (by rw [h3]; rfl)]; exact h5, h6⟩
theorem O3.keepO {x : EntD} (h : O3 w N x) (k : ∀ g, x.vr.ownBlock = some g ∨ x.vq.ownBlock = some g ∨ x.vv.ownBlock = some g → w'.heap[g]? = w.heap[g]?) : O3 w' N x :=
  ⟨own_same h.row (fun g hg => k g (.inl hg)), own_same h.qual (fun g hg => k g (.inr (.inl hg))), own_same h.val (fun g hg => k g (.inr (.inr hg))), h.arq, h.arv, h.aqv⟩
theorem Rw.keep (h : Rw w N v xs O) (k : ∀ i, O i → w'.heap[i]? = w.heap[i]?) : Rw w' N v xs O :=
  ⟨row_same h.row (fun g hg => k g (h.rowO g hg)), fun x hx => (h.ents x hx).keepO (fun g hg => k g (h.entO x hx g hg)), h.ap, h.rowO, h.entO⟩
theorem Rw.mono (h : Rw w N v xs O) (k : ∀ i, O i → O' i) : Rw w N v xs O' := ⟨h.row, h.ents, h.ap, fun g hg => k g (h.rowO g hg), fun x hx g hg => k g (h.entO x hx g hg)⟩
theorem Rw.nil (w : World) (N : Nat) (O : Nat → Prop) : Rw w N (.slice none 0 0) [] O := ⟨by simpa [evals] using World.ownsRow_nil w N 84 7, by simp, List.Pairwise.nil, (fun k hk => by cases hk), by simp⟩
theorem rows_form3 {B n : Nat} {vs : List Value} (h : w.ownsRow B 84 7 v n vs) : ∃ a c, v = .slice a n c := by
  rcases h.2 with ⟨h1, h2⟩ | ⟨g, cap, cur, h1, _⟩
  · exact ⟨none, 0, by rw [h1, h2]⟩
  · exact ⟨_, _, h1⟩
theorem run_append_ent {ty : TypeId} {x : EntD} (hr : w.ownsRow N 84 7 v xs.length (evals xs)) (ad : Addr) (hc : ∀ j u, x.cells.toList[j]? = some u → w.cell? (ad.add j) = some u) (h1 : ∀ u ∈ x.cells.toList, u.oneCell' = true) (hn : (xs.length + 1) * 104 ≤ 140737488355328) (hN : N ≤ w.heap.size) :
    ∃ v' w', (Builtin.append_ #[28, 28] ty #[v, .slice (some ad) 1 1]).run Tryz.prog w = .ok v' w' ∧ w'.ownsRow N 84 7 v' (xs ++ [x]).length (evals (xs ++ [x])) ∧ w.grownBy w' v.ownBlock ∧ (∀ k, v'.ownBlock = some k → v.ownBlock = some k ∨ k = w.heap.size) := by
  obtain ⟨i0, hi, hz0, hz1, hz2⟩ := info_parts info_ent3
  obtain ⟨v', w', hr', h2, h3, h4, h5⟩ := run_append_own_at (P := Tryz.prog) w N 28 ty 84 i0 _ 7 104 und_ents3 hi hz0 hz1 hz2 rfl (by decide) v xs.length (evals xs) hr ad 1 1 x.cells.toList rfl hc h1 (by unfold maxLen; omega) (by omega) hN
  refine ⟨v', w', hr', ?_, h3, fun k hk => ?_⟩
  · rw [evals_snoc, List.length_append]
    exact h2
  · rcases h5 with h5 | h5
    · rw [h5] at hk; exact .inl hk
    · rw [h5] at hk; cases hk; exact .inr rfl
theorem step_append_ent {ops : Array Oper} {o : Oper} {a : Act} {K : Act → World → Prop} {Q : Exit → Act → World → Prop} {E : Prop} {x : EntD} (hgd : o.guard = none) (s y : Operand)
    (ho : o.op = .call { callee := .builtin .append, args := #[s, y], argTypes := #[28, 28] })
    (hs : a.eval s = v) (hr : w.ownsRow N 84 7 v xs.length (evals xs)) (ad : Addr) (hy : a.eval y = .slice (some ad) 1 1) (hc : ∀ j u, x.cells.toList[j]? = some u → w.cell? (ad.add j) = some u) (h1 : ∀ u ∈ x.cells.toList, u.oneCell' = true) (hn : (xs.length + 1) * 104 ≤ 140737488355328) (hN : N ≤ w.heap.size)
    (h : ∀ a' c' w', w'.ownsRow N 84 7 (.slice a' (xs.length + 1) c') (xs ++ [x]).length (evals (xs ++ [x])) → w.grownBy w' v.ownBlock → (∀ k, (Value.slice a' (xs.length + 1) c').ownBlock = some k → v.ownBlock = some k ∨ k = w.heap.size) → K (a.put o.dst (.slice a' (xs.length + 1) c')) w') :
    if Region.wanted o (yielded ops a.tmps) = true then Oper.wp Tryz.prog o a w K Q else E := by
  have hw : Region.wanted o (yielded ops a.tmps) = true := by simp [Region.wanted, hgd]
  rw [if_pos hw]
  obtain ⟨v', w', hrn, h1', h2, h3⟩ := run_append_ent (ty := o.type) hr ad hc h1 hn hN
  obtain ⟨a', c', rfl⟩ := rows_form3 h1'
  have e : (xs ++ [x]).length = xs.length + 1 := by simp
  unfold Oper.wp execOp
  rw [ho]
  simp only [resolve, invoke, builtin, Sem.run_bind, Sem.run_pure, Result.andThen_ok, List.map_toArray, List.map_cons, List.map_nil, hs, hy, hrn]
  rw [e] at h1' h3 ⊢
  have h1'' := h1'
  rw [← e] at h1''
  exact h a' c' w' (by rw [e]; exact h1') h2 h3
end
end Go.Proofs.YtganmnckdmkcbaaGreat

namespace Go.Proofs.YtganmnckdmkcbaaGreat
open Go.RowKit
set_option linter.unusedVariables false

def SBx (w : World) (b : Nat) (c0 v : Value) (cs : List Value) (ty : TypeId) : Prop := w.heap[b]? = some (.cells (c0 :: v :: cs).toArray ty (0, 0))
theorem SBx.c1 {w : World} {b : Nat} {c0 v : Value} {cs : List Value} {ty : TypeId} (h : SBx w b c0 v cs ty) : w.cell? ⟨b, 1, none⟩ = some v := by unfold SBx at h; simp [World.cell?, h]
theorem SBx.fz {w : World} {b : Nat} {c0 v : Value} {cs : List Value} {ty : TypeId} (h : SBx w b c0 v cs ty) (i : Nat) : w.frozen? ⟨b, i, none⟩ = false := by unfold SBx at h; simp [World.frozen?, h]
theorem SBx.lt {w : World} {b : Nat} {c0 v : Value} {cs : List Value} {ty : TypeId} (h : SBx w b c0 v cs ty) : b < w.heap.size := (Array.getElem?_eq_some_iff.1 h).1
theorem SBx.keep {w w' : World} {b : Nat} {c0 v : Value} {cs : List Value} {ty : TypeId} (h : SBx w b c0 v cs ty) (k : w'.heap[b]? = w.heap[b]?) : SBx w' b c0 v cs ty := k.trans h
theorem SBx.set1 {w : World} {b : Nat} {c0 v : Value} {cs : List Value} {ty : TypeId} (h : SBx w b c0 v cs ty) (u : Value) : SBx (w.setCell ⟨b, 1, none⟩ u) b c0 u cs ty := by
  unfold SBx at *
  simp [World.setCell, Array.getElem?_modify, h]
theorem O3.cells_one {w : World} {N : Nat} {x : EntD} (h : O3 w N x) : ∀ u ∈ x.cells.toList, u.oneCell' = true := by
  obtain ⟨a1, c1, e1⟩ := own_form' h.row
  obtain ⟨a2, c2, e2⟩ := own_form' h.qual
  obtain ⟨a3, c3, e3⟩ := own_form' h.val
  unfold EntD.cells
  rw [e1, e2, e3]
  intro u hu
  simp at hu
  rcases hu with rfl | rfl | rfl | rfl | rfl | rfl | rfl <;> rfl

theorem ent_new (w : World) (x : EntD) : ∀ j u, x.cells.toList[j]? = some u → (w.alloc (.cells x.cells 84)).cell? ((⟨w.heap.size, 0, none⟩ : Addr).add j) = some u := fun j u h => by
  have e := heap_new w (.cells x.cells 84)
  have e2 : (w.alloc (.cells x.cells 84)).heap[w.heap.size]? = some (.cells x.cells 84 (0, 0)) := e
  have e3 : ((⟨w.heap.size, 0, none⟩ : Addr).add j) = ⟨w.heap.size, j, none⟩ := by
    unfold Addr.add
    by_cases hj : j = 0 <;> simp [hj]
  rw [e3]
  simp only [World.cell?, e2]
  simpa using h
theorem wp_append_ent {w : World} {N : Nat} {v : Value} {xs : List EntD} {o : Oper} {a : Act} {K : Act → World → Prop} {Q : Exit → Act → World → Prop} {x : EntD} (s y : Operand)
    (ho : o.op = .call { callee := .builtin .append, args := #[s, y], argTypes := #[28, 28] })
    (hs : a.eval s = v) (hr : w.ownsRow N 84 7 v xs.length (evals xs)) (ad : Addr) (hy : a.eval y = .slice (some ad) 1 1) (hc : ∀ j u, x.cells.toList[j]? = some u → w.cell? (ad.add j) = some u) (h1 : ∀ u ∈ x.cells.toList, u.oneCell' = true) (hn : (xs.length + 1) * 104 ≤ 140737488355328) (hN : N ≤ w.heap.size)
    (h : ∀ a' c' w', w'.ownsRow N 84 7 (.slice a' (xs.length + 1) c') (xs ++ [x]).length (evals (xs ++ [x])) → w.grownBy w' v.ownBlock → (∀ k, (Value.slice a' (xs.length + 1) c').ownBlock = some k → v.ownBlock = some k ∨ k = w.heap.size) → K (a.put o.dst (.slice a' (xs.length + 1) c')) w') : Oper.wp Tryz.prog o a w K Q := by
  obtain ⟨v', w', hrn, h1', h2, h3⟩ := run_append_ent (ty := o.type) hr ad hc h1 hn hN
  obtain ⟨a', c', rfl⟩ := rows_form3 h1'
  have e : (xs ++ [x]).length = xs.length + 1 := by simp
  unfold Oper.wp execOp
  rw [ho]
  simp only [resolve, invoke, builtin, Sem.run_bind, Sem.run_pure, Result.andThen_ok, List.map_toArray, List.map_cons, List.map_nil, hs, hy, hrn]
  rw [e] at h1' h3 ⊢
  exact h a' c' w' (by rw [e]; exact h1') h2 h3

set_option maxRecDepth 100000 in
set_option maxHeartbeats 4000000 in
theorem add_any {W : World} {fb N : Nat} {c0 v : Value} {cs : List Value} {ty : TypeId} {xs : List EntD} {O : Nat → Prop} {e : EntD} (hb : SBx W fb c0 v cs ty) (hty : ty ≠ 84 ∧ ty ≠ 5) (hr : Rw W N v xs O) (hO : ∀ i, O i → i < W.heap.size) (hN : N ≤ W.heap.size) (he : EntD.Ok W e) (hl : e.row.length ≤ 256 ∧ e.qual.length ≤ 256 ∧ e.val.length ≤ 4096) (hn : (xs.length + 1) * 104 ≤ 140737488355328) :
    Calls Tryz.prog 105 #[.pointer (some ⟨fb, 0, none⟩), .agg e.cells] W fun r W' => r = .returned (.tuple #[]) ∧ ∃ u x O', SBx W' fb c0 u cs ty ∧ Rw W' N u (xs ++ [x]) O' ∧ x.dat = e.dat ∧ (∀ i, O' i → O i ∨ W.heap.size ≤ i) ∧ (∀ i, O' i → i < W'.heap.size) ∧ W'.os = W.os ∧ W'.tape = W.tape ∧ W'.output = W.output ∧ W.heap.size ≤ W'.heap.size ∧ (∀ i, i < W.heap.size → i ≠ fb → ¬ O i → W'.heap[i]? = W.heap[i]?) := by
  have A := (Below.refl W.heap.size W).alloc (Nat.le_refl _) (.cells e.cells 84)
  have eb := EBox.new W e
  obtain ⟨qb, hqb⟩ : ∃ q, q = W.heap.size := ⟨_, rfl⟩
  have hqb' := hqb.symm
  rw [← hqb] at eb
  obtain ⟨av, cv, ev⟩ := rows_form3 hr.row
  obtain ⟨nx, hnx⟩ : ∃ n, n = xs.length := ⟨_, rfl⟩
  rw [← hnx] at ev
  subst ev
  have rowne : (Value.slice av nx cv).ownBlock ≠ some fb := fun k => by
    rcases hr.row.2 with ⟨h1, _⟩ | ⟨g, cap, cur, h3, h4, h5, _⟩
    · rw [h1] at k; cases k
    · rw [h3] at k
      cases k
      unfold SBx at hb
      rw [hb] at h5
      cases h5
      exact hty.1 rfl
  have hrow1 : (Value.slice av nx cv).ownBlock ≠ some qb := fun k => by have := hO _ (hr.rowO _ k); omega
  obtain ⟨X, hX⟩ : ∃ X, X = W.alloc (.cells e.cells 84) := ⟨_, rfl⟩
  rw [← hX] at eb A
  have HX := Lib.hid hX
  have HA := Lib.hid A
  have hxs : X.heap.size = qb + 1 := by rw [hX, hqb]; simp
  have HXs := Lib.hid hxs
  have HU : Hid (∀ Z, Below X.heap.size X Z → SBx Z fb c0 (.slice av nx cv) cs ty ∧ EBox Z qb e ∧ Rw Z N (.slice av nx cv) xs O ∧ EntD.Ok Z e) := fun Z b => by
    have b2 := A.trans (b.mono A.size)
    exact ⟨hb.keep (b2.block fb hb.lt), eb.later b, hr.keep (fun i hi => b2.block i (hO i hi)), he.later b2⟩
  have HCl : Hid (∀ Z, Below X.heap.size X Z → Calls Tryz.prog 49 #[.agg e.cells] Z _) := fun Z b => clone3_own (HU.out Z b).2.2.2 ⟨by omega, by omega, by omega⟩
  have HNx := Lib.hid hnx
  have hfq : fb ≠ qb := by rw [hqb]; have := hb.lt; omega
  have HCx := Lib.hid (And.intro hO (And.intro hN hn))
  have HNe := Lib.hid (And.intro rowne hrow1)
  have HQb := Lib.hid hqb
  unfold EntD.cells at HX HCl ⊢
  clear A hX eb hqb hxs hnx hr hO hN hn he hl hb rowne hrow1
  have D0 : Below X.heap.size X X.drew := (Below.refl _ _).drew
  obtain ⟨b0, e0, r0, k0⟩ := HU.out _ D0
  have y1 := b0.c1
  have ye := e0.cells7
  clear b0 e0 r0 k0
  go_enter Tryz.func105, Tryz.ntmps105
  go_upto_region 1 with fail
  rw [← HX.out]
  (try rw [hqb'])
  clear hqb' HX
  have HS : Hid (∀ Z, Below X.heap.size X Z → Z.cell? ⟨fb, 1, none⟩ = some (.slice av nx cv) ∧ Z.cell? ⟨qb, 0, none⟩ = some e.vr ∧ Z.cell? ⟨qb, 1, none⟩ = some (.int .i64 e.fam) ∧ Z.cell? ⟨qb, 2, none⟩ = some e.vq ∧ Z.cell? ⟨qb, 3, none⟩ = some (.int .i64 e.ts) ∧ Z.cell? ⟨qb, 4, none⟩ = some (.int .i64 e.seq) ∧ Z.cell? ⟨qb, 5, none⟩ = some (.int .i64 e.kind) ∧ Z.cell? ⟨qb, 6, none⟩ = some e.vv) := fun Z b => ⟨(HU.out Z b).1.c1, (HU.out Z b).2.1.cells7⟩
  have hS := HS.out _ D0
  clear y1 ye
  refine wp_region_noPanic ?_
  refine wp_region_anyE (S := fun Z => Z.cell? ⟨fb, 1, none⟩ = some (.slice av nx cv) ∧ Z.cell? ⟨qb, 0, none⟩ = some e.vr ∧ Z.cell? ⟨qb, 1, none⟩ = some (.int .i64 e.fam) ∧ Z.cell? ⟨qb, 2, none⟩ = some e.vq ∧ Z.cell? ⟨qb, 3, none⟩ = some (.int .i64 e.ts) ∧ Z.cell? ⟨qb, 4, none⟩ = some (.int .i64 e.seq) ∧ Z.cell? ⟨qb, 5, none⟩ = some (.int .i64 e.kind) ∧ Z.cell? ⟨qb, 6, none⟩ = some e.vv) (E := fun j => decide (j < 11)) (by kernel_rfl) ?_
  refine AnyE.take (i := 0) (.pointer (some ⟨fb, 0, none⟩)) rfl (by kernel_rfl) (by kernel_rfl) (by kernel_rfl) (by kernel_rfl) (fun _ _ _ h => h) (.inl ⟨by rfl, fun wq hq => by go_simp⟩) hS ?_
  show AnyE _ _ _ _ _ _ 11 #[true, false, false, false, false, false, false, false, false, false, false, false] ⟨#[(.pointer (some ⟨fb, 0, none⟩)), (.agg #[e.vr, .int .i64 e.fam, e.vq, .int .i64 e.ts, .int .i64 e.seq, .int .i64 e.kind, e.vv]), undef, (.pointer (some ⟨qb, 0, none⟩)), (.pointer (some ⟨fb, 0, none⟩)), undef, undef, undef, undef, undef, undef, undef, undef, undef, undef], []⟩ X.drew
  refine AnyE.take (i := 1) (.pointer (some ⟨fb, 0, none⟩)) rfl (by kernel_rfl) (by kernel_rfl) (by kernel_rfl) (by kernel_rfl) (fun _ _ _ h => h) (.inl ⟨by rfl, fun wq hq => by go_simp⟩) hS ?_
  show AnyE _ _ _ _ _ _ 10 #[true, true, false, false, false, false, false, false, false, false, false, false] ⟨#[(.pointer (some ⟨fb, 0, none⟩)), (.agg #[e.vr, .int .i64 e.fam, e.vq, .int .i64 e.ts, .int .i64 e.seq, .int .i64 e.kind, e.vv]), undef, (.pointer (some ⟨qb, 0, none⟩)), (.pointer (some ⟨fb, 0, none⟩)), (.pointer (some ⟨fb, 0, none⟩)), undef, undef, undef, undef, undef, undef, undef, undef, undef], []⟩ X.drew
  refine AnyE.take (i := 2) (.pointer (some ⟨fb, 0, none⟩)) rfl (by kernel_rfl) (by kernel_rfl) (by kernel_rfl) (by kernel_rfl) (fun _ _ _ h => h) (.inl ⟨by rfl, fun wq hq => by go_simp⟩) hS ?_
  show AnyE _ _ _ _ _ _ 9 #[true, true, true, false, false, false, false, false, false, false, false, false] ⟨#[(.pointer (some ⟨fb, 0, none⟩)), (.agg #[e.vr, .int .i64 e.fam, e.vq, .int .i64 e.ts, .int .i64 e.seq, .int .i64 e.kind, e.vv]), undef, (.pointer (some ⟨qb, 0, none⟩)), (.pointer (some ⟨fb, 0, none⟩)), (.pointer (some ⟨fb, 0, none⟩)), (.pointer (some ⟨fb, 0, none⟩)), undef, undef, undef, undef, undef, undef, undef, undef], []⟩ X.drew
  refine AnyE.take (i := 3) (.pointer (some ⟨fb, 1, none⟩)) rfl (by kernel_rfl) (by kernel_rfl) (by kernel_rfl) (by kernel_rfl) (fun _ _ _ h => h) (.inl ⟨by rfl, fun wq hq => by go_simp⟩) hS ?_
  show AnyE _ _ _ _ _ _ 8 #[true, true, true, true, false, false, false, false, false, false, false, false] ⟨#[(.pointer (some ⟨fb, 0, none⟩)), (.agg #[e.vr, .int .i64 e.fam, e.vq, .int .i64 e.ts, .int .i64 e.seq, .int .i64 e.kind, e.vv]), undef, (.pointer (some ⟨qb, 0, none⟩)), (.pointer (some ⟨fb, 0, none⟩)), (.pointer (some ⟨fb, 0, none⟩)), (.pointer (some ⟨fb, 0, none⟩)), (.pointer (some ⟨fb, 1, none⟩)), undef, undef, undef, undef, undef, undef, undef], []⟩ X.drew
  refine AnyE.take (i := 4) (.slice av nx cv) rfl (by kernel_rfl) (by kernel_rfl) (by kernel_rfl) (by kernel_rfl) (fun _ _ _ h => h) (.inl ⟨by rfl, fun wq hq => by obtain ⟨q1, q20, q21, q22, q23, q24, q25, q26⟩ := hq; go_simp⟩) hS ?_
  show AnyE _ _ _ _ _ _ 7 #[true, true, true, true, true, false, false, false, false, false, false, false] ⟨#[(.pointer (some ⟨fb, 0, none⟩)), (.agg #[e.vr, .int .i64 e.fam, e.vq, .int .i64 e.ts, .int .i64 e.seq, .int .i64 e.kind, e.vv]), undef, (.pointer (some ⟨qb, 0, none⟩)), (.pointer (some ⟨fb, 0, none⟩)), (.pointer (some ⟨fb, 0, none⟩)), (.pointer (some ⟨fb, 0, none⟩)), (.pointer (some ⟨fb, 1, none⟩)), (.slice av nx cv), undef, undef, undef, undef, undef, undef], []⟩ X.drew
  refine AnyE.take (i := 5) (.agg #[e.vr, .int .i64 e.fam, e.vq, .int .i64 e.ts, .int .i64 e.seq, .int .i64 e.kind, e.vv]) rfl (by kernel_rfl) (by kernel_rfl) (by kernel_rfl) (by kernel_rfl) (fun _ _ _ h => h) (.inl ⟨by rfl, fun wq hq => by obtain ⟨q1, q20, q21, q22, q23, q24, q25, q26⟩ := hq; go_simp⟩) hS ?_
  show AnyE _ _ _ _ _ _ 6 #[true, true, true, true, true, true, false, false, false, false, false, false] ⟨#[(.pointer (some ⟨fb, 0, none⟩)), (.agg #[e.vr, .int .i64 e.fam, e.vq, .int .i64 e.ts, .int .i64 e.seq, .int .i64 e.kind, e.vv]), undef, (.pointer (some ⟨qb, 0, none⟩)), (.pointer (some ⟨fb, 0, none⟩)), (.pointer (some ⟨fb, 0, none⟩)), (.pointer (some ⟨fb, 0, none⟩)), (.pointer (some ⟨fb, 1, none⟩)), (.slice av nx cv), (.agg #[e.vr, .int .i64 e.fam, e.vq, .int .i64 e.ts, .int .i64 e.seq, .int .i64 e.kind, e.vv]), undef, undef, undef, undef, undef], []⟩ X.drew
  refine AnyE.one (i := 6) rfl (by kernel_rfl) (by rfl) (fun K1 hK1 => ?_)
  go_simp
  refine Calls.mono (HCl.out _ D0) ?_
  rintro z1 w1 ⟨x, rfl, sx, ok1, o31, b1⟩
  have D1 := D0.trans (b1.mono D0.size)
  have hS1 := HS.out _ D1
  have HSx := Lib.hid (EntD.dat_same.2 sx)
  have O31 := Lib.hid o31
  have B1 := Lib.hid b1
  obtain ⟨xr, xf, xq, xt, xs2, xk, xv, xrow, xqual, xval⟩ := x
  obtain ⟨ar, cr, er⟩ := own_form' o31.row
  obtain ⟨aq, cq, eq⟩ := own_form' o31.qual
  obtain ⟨aw, cw, ew⟩ := own_form' o31.val
  simp only at er eq ew
  subst er eq ew
  clear sx ok1 o31 b1
  refine hK1.out _ _ ⟨fun _ => hS1, ?_⟩
  clear hK1
  show AnyE _ _ _ _ _ _ 5 #[true, true, true, true, true, true, true, false, false, false, false, false] ⟨#[(.pointer (some ⟨fb, 0, none⟩)), (.agg #[e.vr, .int .i64 e.fam, e.vq, .int .i64 e.ts, .int .i64 e.seq, .int .i64 e.kind, e.vv]), undef, (.pointer (some ⟨qb, 0, none⟩)), (.pointer (some ⟨fb, 0, none⟩)), (.pointer (some ⟨fb, 0, none⟩)), (.pointer (some ⟨fb, 0, none⟩)), (.pointer (some ⟨fb, 1, none⟩)), (.slice av nx cv), (.agg #[e.vr, .int .i64 e.fam, e.vq, .int .i64 e.ts, .int .i64 e.seq, .int .i64 e.kind, e.vv]), (.agg #[.slice ar xrow.length cr, .int .i64 xf, .slice aq xqual.length cq, .int .i64 xt, .int .i64 xs2, .int .i64 xk, .slice aw xval.length cw]), undef, undef, undef, undef], []⟩ w1
  refine AnyE.one (i := 7) rfl (by kernel_rfl) (by rfl) (fun K2 hK2 => ?_)
  go_simp
  have D2 := D1.alloc D1.size (.cells #[.slice ar xrow.length cr, .int .i64 xf, .slice aq xqual.length cq, .int .i64 xt, .int .i64 xs2, .int .i64 xk, .slice aw xval.length cw] 84)
  refine hK2.out _ _ ⟨fun _ => HS.out _ D2, ?_⟩
  clear hK2
  show AnyE _ _ _ _ _ _ 4 #[true, true, true, true, true, true, true, true, false, false, false, false] ⟨#[(.pointer (some ⟨fb, 0, none⟩)), (.agg #[e.vr, .int .i64 e.fam, e.vq, .int .i64 e.ts, .int .i64 e.seq, .int .i64 e.kind, e.vv]), undef, (.pointer (some ⟨qb, 0, none⟩)), (.pointer (some ⟨fb, 0, none⟩)), (.pointer (some ⟨fb, 0, none⟩)), (.pointer (some ⟨fb, 0, none⟩)), (.pointer (some ⟨fb, 1, none⟩)), (.slice av nx cv), (.agg #[e.vr, .int .i64 e.fam, e.vq, .int .i64 e.ts, .int .i64 e.seq, .int .i64 e.kind, e.vv]), (.agg #[.slice ar xrow.length cr, .int .i64 xf, .slice aq xqual.length cq, .int .i64 xt, .int .i64 xs2, .int .i64 xk, .slice aw xval.length cw]), (.slice (some ⟨w1.heap.size, 0, none⟩) 1 1), undef, undef, undef], []⟩ (w1.alloc (.cells #[.slice ar xrow.length cr, .int .i64 xf, .slice aq xqual.length cq, .int .i64 xt, .int .i64 xs2, .int .i64 xk, .slice aw xval.length cw] 84))
  refine AnyE.one (i := 8) rfl (by kernel_rfl) (by rfl) (fun K3 hK3 => ?_)
  refine wp_append_ent (x := (⟨.slice ar xrow.length cr, xf, .slice aq xqual.length cq, xt, xs2, xk, .slice aw xval.length cw, xrow, xqual, xval⟩ : EntD)) (.tmp 8) (.tmp 11) rfl rfl (HU.out _ D2).2.2.1.row ⟨w1.heap.size, 0, none⟩ rfl (ent_new w1 (⟨.slice ar xrow.length cr, xf, .slice aq xqual.length cq, xt, xs2, xk, .slice aw xval.length cw, xrow, xqual, xval⟩ : EntD)) (O3.cells_one O31.out) HCx.out.2.2 (Nat.le_trans HCx.out.2.1 (Nat.le_trans HA.out.size D2.size)) ?_
  intro a2 c2 w2 ow2 gr2 lo2
  have hf2 : w2.heap[fb]? = (w1.alloc (.cells #[.slice ar xrow.length cr, .int .i64 xf, .slice aq xqual.length cq, .int .i64 xt, .int .i64 xs2, .int .i64 xk, .slice aw xval.length cw] 84)).heap[fb]? := gr2.block fb (Nat.lt_of_lt_of_le (HU.out X (Below.refl _ _)).1.lt D2.size) (fun z => HNe.out.1 z.symm)
  have he2 : w2.heap[qb]? = (w1.alloc (.cells #[.slice ar xrow.length cr, .int .i64 xf, .slice aq xqual.length cq, .int .i64 xt, .int .i64 xs2, .int .i64 xk, .slice aw xval.length cw] 84)).heap[qb]? := gr2.block qb (Nat.lt_of_lt_of_le (Array.getElem?_eq_some_iff.1 (HU.out X (Below.refl _ _)).2.1).1 D2.size) (fun z => HNe.out.2 z.symm)
  have SB2 : SBx w2 fb c0 (.slice av nx cv) cs ty := (HU.out _ D2).1.keep hf2
  have hS2 : w2.cell? ⟨fb, 1, none⟩ = some (.slice av nx cv) ∧ w2.cell? ⟨qb, 0, none⟩ = some e.vr ∧ w2.cell? ⟨qb, 1, none⟩ = some (.int .i64 e.fam) ∧ w2.cell? ⟨qb, 2, none⟩ = some e.vq ∧ w2.cell? ⟨qb, 3, none⟩ = some (.int .i64 e.ts) ∧ w2.cell? ⟨qb, 4, none⟩ = some (.int .i64 e.seq) ∧ w2.cell? ⟨qb, 5, none⟩ = some (.int .i64 e.kind) ∧ w2.cell? ⟨qb, 6, none⟩ = some e.vv := ⟨SB2.c1, EBox.cells7 (show EBox w2 qb e from he2.trans (HU.out _ D2).2.1)⟩
  refine hK3.out _ _ ⟨fun _ => hS2, ?_⟩
  clear hK3
  show AnyE _ _ _ _ _ _ 3 #[true, true, true, true, true, true, true, true, true, false, false, false] ⟨#[(.pointer (some ⟨fb, 0, none⟩)), (.agg #[e.vr, .int .i64 e.fam, e.vq, .int .i64 e.ts, .int .i64 e.seq, .int .i64 e.kind, e.vv]), undef, (.pointer (some ⟨qb, 0, none⟩)), (.pointer (some ⟨fb, 0, none⟩)), (.pointer (some ⟨fb, 0, none⟩)), (.pointer (some ⟨fb, 0, none⟩)), (.pointer (some ⟨fb, 1, none⟩)), (.slice av nx cv), (.agg #[e.vr, .int .i64 e.fam, e.vq, .int .i64 e.ts, .int .i64 e.seq, .int .i64 e.kind, e.vv]), (.agg #[.slice ar xrow.length cr, .int .i64 xf, .slice aq xqual.length cq, .int .i64 xt, .int .i64 xs2, .int .i64 xk, .slice aw xval.length cw]), (.slice (some ⟨w1.heap.size, 0, none⟩) 1 1), (.slice a2 (xs.length + 1) c2), undef, undef], []⟩ w2
  refine AnyE.one (i := 9) rfl (by kernel_rfl) (by rfl) (fun K5 hK5 => ?_)
  go_simp
  refine hK5.out _ _ ⟨fun _ => hS2, ?_⟩
  clear hK5
  show AnyE _ _ _ _ _ _ 2 #[true, true, true, true, true, true, true, true, true, true, false, false] ⟨#[(.pointer (some ⟨fb, 0, none⟩)), (.agg #[e.vr, .int .i64 e.fam, e.vq, .int .i64 e.ts, .int .i64 e.seq, .int .i64 e.kind, e.vv]), undef, (.pointer (some ⟨qb, 0, none⟩)), (.pointer (some ⟨fb, 0, none⟩)), (.pointer (some ⟨fb, 0, none⟩)), (.pointer (some ⟨fb, 0, none⟩)), (.pointer (some ⟨fb, 1, none⟩)), (.slice av nx cv), (.agg #[e.vr, .int .i64 e.fam, e.vq, .int .i64 e.ts, .int .i64 e.seq, .int .i64 e.kind, e.vv]), (.agg #[.slice ar xrow.length cr, .int .i64 xf, .slice aq xqual.length cq, .int .i64 xt, .int .i64 xs2, .int .i64 xk, .slice aw xval.length cw]), (.slice (some ⟨w1.heap.size, 0, none⟩) 1 1), (.slice a2 (xs.length + 1) c2), (.pointer (some ⟨fb, 0, none⟩)), undef], []⟩ w2
  refine AnyE.one (i := 10) rfl (by kernel_rfl) (by rfl) (fun K5 hK5 => ?_)
  go_simp
  refine hK5.out _ _ ⟨fun _ => hS2, ?_⟩
  clear hK5
  show AnyE _ _ _ _ _ _ 1 #[true, true, true, true, true, true, true, true, true, true, true, false] ⟨#[(.pointer (some ⟨fb, 0, none⟩)), (.agg #[e.vr, .int .i64 e.fam, e.vq, .int .i64 e.ts, .int .i64 e.seq, .int .i64 e.kind, e.vv]), undef, (.pointer (some ⟨qb, 0, none⟩)), (.pointer (some ⟨fb, 0, none⟩)), (.pointer (some ⟨fb, 0, none⟩)), (.pointer (some ⟨fb, 0, none⟩)), (.pointer (some ⟨fb, 1, none⟩)), (.slice av nx cv), (.agg #[e.vr, .int .i64 e.fam, e.vq, .int .i64 e.ts, .int .i64 e.seq, .int .i64 e.kind, e.vv]), (.agg #[.slice ar xrow.length cr, .int .i64 xf, .slice aq xqual.length cq, .int .i64 xt, .int .i64 xs2, .int .i64 xk, .slice aw xval.length cw]), (.slice (some ⟨w1.heap.size, 0, none⟩) 1 1), (.slice a2 (xs.length + 1) c2), (.pointer (some ⟨fb, 0, none⟩)), (.pointer (some ⟨fb, 1, none⟩))], []⟩ w2
  have y1 := SB2.c1
  have g1 := SB2.fz 1
  refine AnyE.one (i := 11) rfl (by kernel_rfl) (by rfl) (fun K4 hK4 => ?_)
  go_simp
  refine hK4.out _ _ ⟨fun h => (by cases h), ?_⟩
  clear hK4
  show AnyE _ _ _ _ _ _ 0 #[true, true, true, true, true, true, true, true, true, true, true, true] ⟨#[(.pointer (some ⟨fb, 0, none⟩)), (.agg #[e.vr, .int .i64 e.fam, e.vq, .int .i64 e.ts, .int .i64 e.seq, .int .i64 e.kind, e.vv]), undef, (.pointer (some ⟨qb, 0, none⟩)), (.pointer (some ⟨fb, 0, none⟩)), (.pointer (some ⟨fb, 0, none⟩)), (.pointer (some ⟨fb, 0, none⟩)), (.pointer (some ⟨fb, 1, none⟩)), (.slice av nx cv), (.agg #[e.vr, .int .i64 e.fam, e.vq, .int .i64 e.ts, .int .i64 e.seq, .int .i64 e.kind, e.vv]), (.agg #[.slice ar xrow.length cr, .int .i64 xf, .slice aq xqual.length cq, .int .i64 xt, .int .i64 xs2, .int .i64 xk, .slice aw xval.length cw]), (.slice (some ⟨w1.heap.size, 0, none⟩) 1 1), (.slice a2 (xs.length + 1) c2), (.pointer (some ⟨fb, 0, none⟩)), (.pointer (some ⟨fb, 1, none⟩))], []⟩ (w2.setCell ⟨fb, 1, none⟩ (.slice a2 (xs.length + 1) c2))
  refine AnyE.done (by kernel_rfl) (NoPanic.normal ?_) _
  have HFin := Lib.hid (And.intro SB2 (And.intro ow2 (And.intro gr2 lo2)))
  have HD1 := Lib.hid D1
  have HD2 := Lib.hid D2
  clear SB2 ow2 gr2 lo2 y1 g1 hS hS1 hS2 D0 D1 D2 hf2 he2
  go_wp2
  go_end0
  obtain ⟨SB2, ow2, gr2, lo2⟩ := HFin.out
  have D2 := HD2.out
  have D1 := HD1.out
  have AW2 := HA.out.trans (D2.mono HA.out.size)
  obtain ⟨WZ, hWZ⟩ : ∃ WZ : World, WZ = w1.alloc (.cells #[.slice ar xrow.length cr, .int .i64 xf, .slice aq xqual.length cq, .int .i64 xt, .int .i64 xs2, .int .i64 xk, .slice aw xval.length cw] 84) := ⟨_, rfl⟩
  rw [← hWZ] at gr2 lo2 D2 AW2
  obtain ⟨_, _, R2, _⟩ := HU.out _ D2
  have hO := HCx.out.1
  have tyR : ∀ g, (Value.slice av nx cv).ownBlock = some g → ∃ cur fr, WZ.heap[g]? = some (.cells cur 84 fr) := fun g hg => by
    rcases R2.row.2 with ⟨h1, _⟩ | ⟨g', cap, cur, h3, h4, h5, _⟩
    · rw [h1] at hg; cases hg
    · rw [h3] at hg; cases hg; exact ⟨cur, _, h5⟩
  have kG : ∀ (g : Nat) (cur : Array Value) (fr : Nat × Nat), WZ.heap[g]? = some (.cells cur 5 fr) → (w2.setCell ⟨fb, 1, none⟩ (.slice a2 (xs.length + 1) c2)).heap[g]? = WZ.heap[g]? := fun g cur fr hg => by
    have hgl := (Array.getElem?_eq_some_iff.1 hg).1
    have h1 : w2.heap[g]? = WZ.heap[g]? := gr2.block g hgl (fun z => by
      obtain ⟨c', f', h'⟩ := tyR g z.symm
      rw [hg] at h'; cases h')
    rw [← h1]
    refine Below.heap_setCell _ _ _ _ (fun z => ?_)
    subst z
    rw [← h1] at hg
    unfold SBx at SB2
    rw [SB2] at hg
    cases hg
    exact hty.2 rfl
  have hdW : X.drew.heap.size = X.heap.size := rfl
  have O3n : O3 WZ X.heap.size (⟨.slice ar xrow.length cr, xf, .slice aq xqual.length cq, xt, xs2, xk, .slice aw xval.length cw, xrow, xqual, xval⟩ : EntD) := by rw [hWZ]; exact O31.out.later ((Below.refl _ _).alloc (Nat.le_refl _) _)
  have sWX : W.heap.size ≤ X.heap.size := HA.out.size
  have sX2 : X.heap.size ≤ WZ.heap.size := D2.size
  have s22 : WZ.heap.size ≤ w2.heap.size := gr2.size
  have sF : (w2.setCell ⟨fb, 1, none⟩ (.slice a2 (xs.length + 1) c2)).heap.size = w2.heap.size := by simp
  have NX : N ≤ X.heap.size := Nat.le_trans HCx.out.2.1 sWX
  have rlt := fun k hk => (ow2.lt k hk)
  refine ⟨rfl, _, (⟨.slice ar xrow.length cr, xf, .slice aq xqual.length cq, xt, xs2, xk, .slice aw xval.length cw, xrow, xqual, xval⟩ : EntD), fun i => (O i ∨ W.heap.size ≤ i) ∧ i < (w2.setCell ⟨fb, 1, none⟩ (.slice a2 (xs.length + 1) c2)).heap.size, SB2.set1 _, ⟨?_, ?_, ?_, ?_, ?_⟩, HSx.out, fun i h => h.1, fun i h => h.2, ?_, ?_, ?_, ?_, ?_⟩
  · refine row_same ow2 (fun g hg => Below.heap_setCell _ _ _ _ (fun z => ?_))
    subst z
    rcases ow2.2 with ⟨h1, _⟩ | ⟨g', cap, cur, h3, h4, h5, _⟩
    · rw [h1] at hg; cases hg
    · rw [h3] at hg
      cases hg
      unfold SBx at SB2
      rw [SB2] at h5
      cases h5
      exact hty.1 rfl
  · intro y hy
    rcases List.mem_append.1 hy with hy | hy
    · exact (R2.ents y hy).same (fun g _ _ ⟨cur, fr, hg⟩ => kG g cur fr hg)
    · simp only [List.mem_singleton] at hy
      subst hy
      exact (O3n.same (fun g _ _ ⟨cur, fr, hg⟩ => kG g cur fr hg)).mono NX
  · rw [List.pairwise_append]
    refine ⟨R2.ap, by simp, fun y hy z hz => ?_⟩
    simp only [List.mem_singleton] at hz
    subst hz
    intro g hg hg2
    have h1 := hO g (R2.entO y hy g hg)
    have h2 := (O3n.lt g hg2).1
    omega
  · intro k hk
    have h2 := (rlt k hk).2
    rcases lo2 k hk with h1 | h1
    · exact ⟨.inl (R2.rowO k h1), by rw [sF]; exact h2⟩
    · exact ⟨.inr (by omega), by rw [sF]; exact h2⟩
  · intro y hy k hk
    rcases List.mem_append.1 hy with hy | hy
    · have := R2.entO y hy k hk
      exact ⟨.inl this, by have := hO k this; omega⟩
    · simp only [List.mem_singleton] at hy
      subst hy
      have := O3n.lt k hk
      exact ⟨.inr (by omega), by omega⟩
  · exact gr2.os.trans AW2.os
  · exact gr2.tape.trans AW2.tape
  · exact gr2.output.trans AW2.output
  · omega
  · intro i hi h1 h2
    rw [Below.heap_setCell _ _ _ _ (fun z => h1 z), gr2.block i (by omega) (fun z => h2 (R2.rowO i z.symm)), AW2.block i hi]
end Go.Proofs.YtganmnckdmkcbaaGreat
