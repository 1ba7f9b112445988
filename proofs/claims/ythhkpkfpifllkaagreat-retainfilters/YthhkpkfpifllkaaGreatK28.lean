import Derived.Test.YthhkpkfpifllkaaGreatK27
namespace Go.Proofs.YthhkpkfpifllkaaGreat
open Go.RowKit
set_option linter.unusedVariables false
set_option maxRecDepth 100000 in
set_option maxHeartbeats 16000000 in
theorem endF_any {B wb g rb q n fc : Nat} {fv : Value} {fa : Option Addr} {fs : List FamD} {clock low t nv : Int} {major : Bool} {T : List En → World → (Nat → Prop) → List Vd → Prop} {OO : List Vd → List En} {wa : List En → List En} {V0 : List Vd} {W : World} {P : Nat → Prop} 
    (H : Hands g rb B (.pointer (some ⟨wb, 0, none⟩)) T) (K : Kd (mt fs) clock fs.length OO wa) (hT : ∀ (hd : List En) (W : World) (vs : List Vd), T hd W (fun i => i = rb) vs → hd = OO vs)
    (hW : ∀ (w : World) (a : Option Addr) (cap : Nat) (ls : List EntD), w.cell? ⟨q, 0, none⟩ = some (.pointer (some ⟨rb, 0, none⟩)) → RdF w (.slice fa fs.length fc) fs → RdL3 w a cap ls → ls.length ≤ 1353245080300 → inOrderE (check3S fs.length) ls = 0 → Calls Tryz.prog 98 #[.pointer (some ⟨q, 0, none⟩), .agg #[.slice fa fs.length fc, .int .i64 clock, .bool major, .int .i64 low, .int .i64 t, .int .i64 nv], .slice a ls.length cap] w fun r w' => ∃ (v : Value) (zs : List EntD) (m : List En), r = .returned v ∧ IsOrd fs.length (ls.map EntD.dat) m ∧ Vw w w' zs v (wa m))
    (hfs : ∀ f ∈ fs, 0 ≤ f.tl ∧ f.tl ≤ 1099511627776) (hS : SchemaOk fs) (hDr : ∀ (hd : List En) (W : World) (vs : List Vd), T hd W (fun i => i = rb) vs → (∃ ov, SBx W rb (.pointer (some ⟨wb, 0, none⟩)) ov (fBc major low (cntS major low vs)) 107) ∧ (cntS major low vs).Ok vs.length) (h : Fl B wb g rb q fv fs clock T OO (some ⟨rb, 0, none⟩) none ((cntS major low) V0) V0 W n P) (hin : ∀ Z, SpF W Z P → RdF Z (.slice fa fs.length fc) fs) (hn : n ≤ 1353245080300) :
    Calls Tryz.prog 68 #[.pointer (some ⟨q, 0, none⟩), .agg #[.slice fa fs.length fc, .int .i64 clock, .bool major, .int .i64 low, .int .i64 t, .int .i64 nv]] W fun r W' => r = .returned (.bool true) ∧ ∃ V1, FlTo B wb g rb q fv fs clock T OO (some ⟨rb, 0, none⟩) none ((cntS major low) V1) V1 W W' n P := by
  obtain ⟨ins, outs, la, vi, vo, s, us, l, m, Oi, Oo, hF, d, rfl⟩ := h
  obtain ⟨X, hX, A, hXs, cb⟩ := end_box W fa fs.length fc clock low t nv major
  have FX := hF.later H A
  obtain ⟨ai, ci, evi, hain, rdi⟩ := FX.rin.rdl (fun x hx => (d.szi x hx).1)
  subst evi
  obtain ⟨ao, co, evo, -, -⟩ := FX.rout.rdl (fun x hx => (d.outSz K x hx).1)
  subst evo
  obtain ⟨L1, L2, L3, L4, L5⟩ := d.lens
  have hPl := hF.inlt H
  have HC1 := Lib.hid (fEnd_any H FX.rest (by omega) hfs L2 L3)
  obtain ⟨cN, hcN⟩ : ∃ k, k = W.heap.size := ⟨_, rfl⟩
  have hcN' := hcN.symm
  rw [← hcN] at cb hXs
  have HX := Lib.hid hX
  have HA := Lib.hid A
  have HXs := Lib.hid hXs
  have HFX := Lib.hid FX
  have HD := Lib.hid d
  have HIn := Lib.hid hin
  have HPl := Lib.hid hPl
  have HcN := Lib.hid hcN
  have Hcb := Lib.hid cb
  have HL : Hid ((V0 ++ us).length ≤ n ∧ ins.length ≤ n ∧ n ≤ 1353245080300) := ⟨L1, L5, hn⟩
  have HWa := Lib.hid hW
  have HT := Lib.hid hT
  have y0 := FX.box.c0
  have y1 := FX.box.c1
  clear hX A hXs cb FX rdi hain L1 L2 L3 L4 L5 hPl hcN hF d hin hn hfs
  clear hW hT
  go_enter Tryz.func68, Tryz.ntmps68
  go_upto_region 1 with fail
  rw [← HX.out]
  (try rw [hcN'])
  go_wp2_with fail
  refine Calls.mono HC1.out ?_
  rintro r X1 ⟨xs, al, cl, Or, rfl, st⟩
  have HSt := Lib.hid st
  clear HX HC1 st y0 y1
  have HF1 := Lib.hid (HFX.out.step H HSt.out)
  have HT1 : Hid (OO (V0 ++ us) ++ xs.map EntD.dat = OO (V0 ++ us ++ (resolveS (mt fs) clock s.dat 3).1)) := HT.out _ _ _ HF1.out.rest.wk.tell
  obtain ⟨Q1, Q2, Q3, Q4⟩ := HD.out.ended K HT1.out
  have HQ1 := Lib.hid Q1
  have HQ2 := Lib.hid Q2
  have HQ3 := Lib.hid Q3
  have HQ4 := Lib.hid Q4
  clear Q1 Q2 Q3 Q4
  obtain ⟨no, hno⟩ : ∃ k, k = outs.length := ⟨_, rfl⟩
  obtain ⟨ni, hni⟩ : ∃ k, k = ins.length := ⟨_, rfl⟩
  obtain ⟨nl, hnl⟩ : ∃ k, k = xs.length := ⟨_, rfl⟩
  have Hni := Lib.hid hni
  have Hnl := Lib.hid hnl
  have HFY : Hid (∀ Z, Below X1.heap.size X1 Z → Fm B wb g rb q fv fs clock T (some ⟨rb, 0, none⟩) none Z ins outs la s.begun ((cntS major low) V0) (.slice ai ni ci) (.slice ao no co) spZ (OO (V0 ++ us) ++ xs.map EntD.dat) (V0 ++ us ++ (resolveS (mt fs) clock s.dat 3).1) Oi Oo) := fun Z b => by rw [hni, hno]; exact HF1.out.later H b
  have HLw : Hid (Rw X1 B (.slice al nl cl) xs Or) := by unfold Hid; rw [hnl]; exact HSt.out.rw_
  have HNo : Hid (∀ i, FlP q wb rb fv s la Oi Oo i → i < cN) := fun i hi => by have := (HPl.out i hi).2; have := HcN.out; omega
  have HP1 : Hid (∀ i, FlP q wb rb fv spZ la Oi Oo i → FlP q wb rb fv s la Oi Oo i ∨ X.heap.size ≤ i) := fun i hi => hi.step HSt.out.its
  have HOr : Hid (∀ i, Or i → i < X1.heap.size ∧ ¬ FlP q wb rb fv spZ la Oi Oo i) := fun i hi => ⟨(HSt.out.new i hi).2, fun z => by
    have hge := (HSt.out.new i hi).1
    have hxs := HXs.out
    rcases z with z | z | z | z | z
    · have := HNo.out i (.inl z); omega
    · exact HSt.out.ap i hi z
    · have := HNo.out i (.inr (.inr (.inl z))); omega
    · have := HNo.out i (.inr (.inr (.inr (.inl z)))); omega
    · have := HNo.out i (.inr (.inr (.inr (.inr z)))); omega⟩
  have HSp1 : Hid (SpF W X1 (FlP q wb rb fv s la Oi Oo)) := by
    have k : SpF X X1 (Its wb rb fv s) := ⟨HSt.out.os, HSt.out.tape, HSt.out.output, HSt.out.size, HSt.out.block⟩
    exact SpF.then (SpF.of_below _ HA.out) k (fun i _ z => .inr (.inl z))
  have Hcb1 : Hid (CBx X1 cN fa fs.length fc clock major low t nv) := (HSt.out.block cN (by have := HXs.out; omega) (fun z => by have := HNo.out cN (.inr (.inl z)); omega)).trans Hcb.out
  have HYO : Hid (∀ Z, Below X1.heap.size X1 Z → Z.cell? ⟨q, 3, none⟩ = some (.slice ao no co)) := fun Z b => (HFY.out Z b).box.c3
  have HCl : Hid (∀ Z, Below X1.heap.size X1 Z → Calls Tryz.prog 14 #[.slice al nl cl] Z fun r W' => ∃ v zs, r = .returned v ∧ Cl Z W' zs v ∧ zs.map EntD.dat = xs.map EntD.dat) := fun Z b => by
    obtain ⟨a, c, e1, -, r⟩ := (HLw.out.keep (fun i hi => b.block i (HOr.out i hi).1)).rdl (fun x hx => (HQ1.out x hx).1)
    rw [Hnl.out] at e1 ⊢
    cases e1
    refine cloneAll_any r (fun x hx => ?_) (by have := HQ4.out; have := HL.out; omega)
    have := HQ1.out x hx
    exact ⟨Nat.le_trans this.2.1 (by decide), Nat.le_trans this.2.2.1 (by decide), Nat.le_trans this.2.2.2 (by decide)⟩
  have HLen : Hid (∀ zs : List EntD, zs.map EntD.dat = xs.map EntD.dat → outs.length + zs.length ≤ 1353245080300) := fun zs hz => by
    have h1 : zs.length = xs.length := by have := congrArg List.length hz; simpa using this
    have := HQ4.out; have := HL.out
    omega
  have HB0 : Hid (B ≤ X1.heap.size) := Nat.le_trans (HPl.out q (.inl rfl)).1 (Nat.le_of_lt (Nat.lt_of_lt_of_le (HPl.out q (.inl rfl)).2 HSp1.out.size))
  rw [← hnl]
  clear hno hni hnl
  go_upto_region 5 with fail
  have D0 : Below X1.heap.size X1 X1.drew := (Below.refl _ _).drew
  have hS := HYO.out _ D0
  refine wp_region_noPanic ?_
  refine wp_region_anyE (S := fun Z => Z.cell? ⟨q, 3, none⟩ = some (.slice ao no co)) (E := fun j => decide (j < 10)) (by kernel_rfl) ?_
  refine anyE_gen (fun A0 hA0 => ?_)
  have s0 : A0.tmps.size = 156 := by rw [hA0]; rfl
  have v0_0 : Tv A0 0 (.pointer (some ⟨q, 0, none⟩)) := by rw [hA0]; rfl
  have v0_5 : Tv A0 5 ((.slice al nl cl)) := by rw [hA0]; rfl
  refine AnyE.tk (i := 0) (.pointer (some ⟨q, 0, none⟩)) rfl (by kernel_rfl) (fun _ _ _ h => h) (by rfl) (fun wq hq => op_move v0_0) hS ?_
  refine anyE_gen (fun A1 hA1 => ?_)
  have s1 := tz hA1 s0
  have v1_0 := tn hA1 (by decide) v0_0
  have v1_5 := tn hA1 (by decide) v0_5
  have v1_24 := te hA1 s0 (by decide)
  refine AnyE.tk (i := 1) (.pointer (some ⟨q, 0, none⟩)) rfl (by kernel_rfl) (fun _ _ _ h => h) (by rfl) (fun wq hq => op_move v1_0) hS ?_
  refine anyE_gen (fun A2 hA2 => ?_)
  have s2 := tz hA2 s1
  have v2_5 := tn hA2 (by decide) v1_5
  have v2_24 := tn hA2 (by decide) v1_24
  have v2_25 := te hA2 s1 (by decide)
  refine AnyE.tk (i := 2) (.pointer (some ⟨q, 0, none⟩)) rfl (by kernel_rfl) (fun _ _ _ h => h) (by rfl) (fun wq hq => op_nil v2_25) hS ?_
  refine anyE_gen (fun A3 hA3 => ?_)
  have s3 := tz hA3 s2
  have v3_5 := tn hA3 (by decide) v2_5
  have v3_24 := tn hA3 (by decide) v2_24
  have v3_26 := te hA3 s2 (by decide)
  refine AnyE.tk (i := 3) (.pointer (some ⟨q, 3, none⟩)) rfl (by kernel_rfl) (fun _ _ _ h => h) (by rfl) (fun wq hq => op_fieldO v3_26) hS ?_
  refine anyE_gen (fun A4 hA4 => ?_)
  have s4 := tz hA4 s3
  have v4_5 := tn hA4 (by decide) v3_5
  have v4_24 := tn hA4 (by decide) v3_24
  have v4_27 := te hA4 s3 (by decide)
  refine AnyE.tk (i := 4) (.slice ao no co) rfl (by kernel_rfl) (fun _ _ _ h => h) (by rfl) (fun wq hq => op_loadLi v4_27 hq) hS ?_
  refine anyE_gen (fun A5 hA5 => ?_)
  have s5 := tz hA5 s4
  have v5_5 := tn hA5 (by decide) v4_5
  have v5_24 := tn hA5 (by decide) v4_24
  have v5_28 := te hA5 s4 (by decide)
  refine AnyE.tk (i := 5) (.slice al nl cl) rfl (by kernel_rfl) (fun _ _ _ h => h) (by rfl) (fun wq hq => op_move v5_5) hS ?_
  refine anyE_gen (fun A6 hA6 => ?_)
  have s6 := tz hA6 s5
  have v6_24 := tn hA6 (by decide) v5_24
  have v6_28 := tn hA6 (by decide) v5_28
  have v6_29 := te hA6 s5 (by decide)
  refine AnyE.one (i := 6) rfl (by kernel_rfl) (by rfl) (fun K6 hK6 => ?_)
  refine wp_cloneAllA v6_29 (HCl.out _ D0) ?_
  rintro r1 w1 ⟨u1, zs, rfl, hcl, hzd⟩
  have D1 := D0.trans (hcl.below.mono D0.size)
  refine ⟨u1, rfl, hK6.out _ _ ⟨fun _ => HYO.out _ D1, ?_⟩⟩
  clear hK6
  refine anyE_gen (fun A7 hA7 => ?_)
  have s7 := tz hA7 s6
  have v7_24 := tn hA7 (by decide) v6_24
  have v7_28 := tn hA7 (by decide) v6_28
  have v7_30 := te hA7 s6 (by decide)
  refine AnyE.one (i := 7) rfl (by kernel_rfl) (by rfl) (fun K7 hK7 => ?_)
  have F1 := HFY.out _ D1
  refine wp_append_ents (xs := outs) (ys := zs) (.tmp 28) (.tmp 30) rfl (ev_tmp v7_28) F1.rout.row (ev_tmp v7_30) hcl.row hcl.ents (by have := HLen.out zs hzd; omega) (Nat.le_trans HB0.out D1.size) ?_
  intro a2 n2 c2 w2 en hr2 g2 lo2
  have bx2 : FlBx w2 q (some ⟨rb, 0, none⟩) none _ _ _ _ _ := F1.box.keep (g2.block q F1.box.lt (fun z => F1.aq.2.2.1 (F1.rout.rowO q z.symm)))
  refine hK7.out _ _ ⟨fun _ => bx2.c3, ?_⟩
  clear hK7
  refine anyE_gen (fun A8 hA8 => ?_)
  have s8 := tz hA8 s7
  have v8_24 := tn hA8 (by decide) v7_24
  have v8_31 := te hA8 s7 (by decide)
  refine AnyE.one (i := 8) rfl (by kernel_rfl) (by rfl) (fun K8 hK8 => ?_)
  refine wp_nil0 v8_24 ?_
  refine hK8.out _ _ ⟨fun _ => bx2.c3, ?_⟩
  clear hK8
  refine anyE_gen (fun A9 hA9 => ?_)
  have s9 := tz hA9 s8
  have v9_31 := tn hA9 (by decide) v8_31
  have v9_32 := te hA9 s8 (by decide)
  refine AnyE.one (i := 9) rfl (by kernel_rfl) (by rfl) (fun K9 hK9 => ?_)
  refine wp_fieldO v9_32 ?_
  refine hK9.out _ _ ⟨fun _ => bx2.c3, ?_⟩
  clear hK9
  refine anyE_gen (fun A10 hA10 => ?_)
  have s10 := tz hA10 s9
  have v10_31 := tn hA10 (by decide) v9_31
  have v10_33 := te hA10 s9 (by decide)
  refine AnyE.one (i := 10) rfl (by kernel_rfl) (by rfl) (fun K10 hK10 => ?_)
  refine wp_storeLi bx2.c3 (bx2.fz 3) v10_33 v10_31 ?_
  refine hK10.out _ _ ⟨fun h => (by cases h), ?_⟩
  clear hK10
  refine AnyE.done (by kernel_rfl) (NoPanic.normal ?_) _
  clear s0 v0_0 v0_5 s1 v1_0 v1_5 v1_24 s2 v2_5 v2_24 v2_25 s3 v3_5 v3_24 v3_26 s4 v4_5 v4_24 v4_27 s5 v5_5 v5_24 v5_28 s6 v6_24 v6_28 v6_29 s7 v7_24 v7_28 v7_30 s8 v8_24 v8_31 s9 v9_31 v9_32 s10 v10_31 v10_33
  subst hA10 hA9 hA8 hA7 hA6 hA5 hA4 hA3 hA2 hA1 hA0
  have FQ := F1.putOut H (w0 := X1.drew.heap.size) (fun i hi => (HFY.out _ (Below.refl _ _)).inlt H i hi |>.2) hcl.ents hcl.ap hcl.below.size hr2 g2 (fun k hk => (lo2 k hk).imp id (fun z => Nat.le_of_eq z.symm))
  have HEn := Lib.hid en
  have HFQ := Lib.hid FQ
  have HZd := Lib.hid hzd
  have HD1 := Lib.hid D1
  obtain ⟨X2, hX2⟩ : ∃ Y, Y = w2.setCell ⟨q, 3, none⟩ (.slice a2 n2 c2) := ⟨_, rfl⟩
  rw [← hX2] at HFQ ⊢
  clear hX2 en FQ hzd D1 D0 hS hcl F1 hr2 g2 lo2 bx2
  obtain ⟨Oo2, hOo2⟩ : ∃ O : Nat → Prop, O = (fun i => Oo i ∨ (X1.drew.heap.size ≤ i ∧ i < w2.heap.size)) := ⟨_, rfl⟩
  have HOo2 := Lib.hid hOo2
  rw [← hOo2] at HFQ
  clear hOo2
  have HSp12 : Hid (SpF X1 X2 (FlP q wb rb fv spZ la Oi Oo)) := SpF.then (SpF.of_below _ HD1.out) HFQ.out.2 (fun i _ z => z)
  have HCs : Hid (Calls Tryz.prog 97 #[.slice al nl cl] X2 fun r W' => r = .returned (.bool true) ∧ SpF X2 W' Or) := by
    refine spoil_any (HLw.out.keep (fun i hi => HSp12.out.block i (HOr.out i hi).1 (HOr.out i hi).2)) (fun i hi => Nat.lt_of_lt_of_le (HOr.out i hi).1 HSp12.out.size) (Nat.le_trans HB0.out HSp12.out.size) (fun x hx => ?_) (by have := HQ4.out; have := HL.out; omega)
    have := HQ1.out x hx
    exact ⟨⟨Nat.le_trans this.2.1 (by decide), Nat.le_trans this.2.2.1 (by decide), Nat.le_trans this.2.2.2 (by decide)⟩, this.1⟩
  go_wp2_with fail
  refine Calls.mono HCs.out ?_
  rintro r X3 ⟨rfl, sps⟩
  have HSs := Lib.hid sps
  clear sps HCs
  have HFl2 : Hid (∀ i, FlP q wb rb fv spZ la Oi Oo2 i → FlP q wb rb fv spZ la Oi Oo i ∨ X1.heap.size ≤ i) := fun i hi => by
    rw [HOo2.out] at hi
    rcases hi with z | z | z | z | z
    · exact .inl (.inl z)
    · exact .inl (.inr (.inl z))
    · exact .inl (.inr (.inr (.inl z)))
    · exact z.imp (fun y => .inr (.inr (.inr (.inl y)))) (fun y => y.1)
    · exact .inl (.inr (.inr (.inr (.inr z))))
  have HF3 : Hid (∀ Z, Below X3.heap.size X3 Z → Fm B wb g rb q fv fs clock T (some ⟨rb, 0, none⟩) none Z ins (outs ++ zs) la s.begun ((cntS major low) V0) (.slice ai ni ci) (.slice a2 n2 c2) spZ (OO (V0 ++ us) ++ xs.map EntD.dat) (V0 ++ us ++ (resolveS (mt fs) clock s.dat 3).1) Oi Oo2) := fun Z b => by
    have f := HFQ.out.1
    refine (f.keep H HSs.out.size (fun i hi => HSs.out.block i (f.inlt H i hi).2 (fun z => ?_))).later H b
    rcases HFl2.out i hi with y | y
    · exact (HOr.out i z).2 y
    · have := (HOr.out i z).1; omega
  have HSp3 : Hid (SpF W X3 (FlP q wb rb fv s la Oi Oo)) := by
    refine SpF.then (SpF.then HSp1.out HSp12.out (fun i h1 h2 => ?_)) HSs.out (fun i h1 h2 => ?_)
    · rcases HP1.out i h2 with z | z
      · exact z
      · have := HXs.out; have := HcN.out; omega
    · have := (HSt.out.new i h2).1; have := HXs.out; have := HcN.out; omega
  have Hcb3 : Hid (CBx X3 cN fa fs.length fc clock major low t nv) := by
    have l1 := (Array.getElem?_eq_some_iff.1 Hcb1.out).1
    refine (HSs.out.block cN (Nat.lt_of_lt_of_le l1 HSp12.out.size) (fun z => ?_)).trans ((HSp12.out.block cN l1 (fun z => ?_)).trans Hcb1.out)
    · have := (HSt.out.new cN z).1; have := HXs.out; omega
    · rcases HP1.out cN z with y | y
      · have := HNo.out cN y; omega
      · have := HXs.out; omega
  have HK3 : Hid (∀ Z, Below X3.heap.size X3 Z → (Z.cell? ⟨cN, 0, none⟩ = some (.slice fa fs.length fc) ∧ Z.cell? ⟨cN, 1, none⟩ = some (.int .i64 clock) ∧ Z.cell? ⟨cN, 2, none⟩ = some (.bool major) ∧ Z.cell? ⟨cN, 3, none⟩ = some (.int .i64 low) ∧ Z.cell? ⟨cN, 4, none⟩ = some (.int .i64 t) ∧ Z.cell? ⟨cN, 5, none⟩ = some (.int .i64 nv)) ∧ Z.cell? ⟨q, 3, none⟩ = some (.slice a2 n2 c2) ∧ Z.cell? ⟨q, 2, none⟩ = some (.slice ai ni ci)) := fun Z b => ⟨CBx.cells ((b.block cN (Array.getElem?_eq_some_iff.1 Hcb3.out).1).trans Hcb3.out), (HF3.out Z b).box.c3, (HF3.out Z b).box.c2⟩
  have D3 : Below X3.heap.size X3 X3.drew := (Below.refl _ _).drew
  have HRdF : Hid (∀ Z, Below X3.heap.size X3 Z → RdF Z (.slice fa fs.length fc) fs) := fun Z b => HIn.out Z (SpF.below HSp3.out b)
  have HCw : Hid (Calls Tryz.prog 98 #[.pointer (some ⟨q, 0, none⟩), .agg #[.slice fa fs.length fc, .int .i64 clock, .bool major, .int .i64 low, .int .i64 t, .int .i64 nv], .slice ai ni ci] X3.drew fun r w' => ∃ (v : Value) (zs : List EntD) (m : List En), r = .returned v ∧ IsOrd fs.length (ins.map EntD.dat) m ∧ Vw X3.drew w' zs v (wa m)) := by
    have f8 := HF3.out _ D3
    obtain ⟨a, c, e1, -, r⟩ := f8.rin.rdl (fun x hx => (HD.out.szi x hx).1)
    have hni := Hni.out
    subst hni
    cases e1
    exact HWa.out _ _ _ _ f8.box.c0 (HRdF.out _ D3) r (by have := HL.out; omega) HD.out.inOrd
  have HCa : Hid (∀ (w : World) (aa : Option Addr) (ca : Nat) (za : List EntD) (m' : List En), IsOrd fs.length (ins.map EntD.dat) m' → Vw X3.drew w za (.slice aa za.length ca) (wa m') → Calls Tryz.prog 18 #[.slice a2 n2 c2, .slice aa za.length ca] w fun r w' => r = .returned (.bool true) ∧ Below w.heap.size w w') := fun w aa ca za m' hio hvw => by
    have b4 := D3.trans (hvw.below.mono D3.size)
    have hmm := hio.unique HD.out.isOrd
    have hall : (outs ++ zs).map EntD.dat = za.map EntD.dat := by rw [List.map_append, HZd.out, HQ2.out, hvw.dat, hmm]
    have hen := HEn.out
    obtain ⟨a, cc, e1, -, r⟩ := (HF3.out w b4).rout.rdl (fun x hx => by
      have : x.dat ∈ outs.map EntD.dat ++ xs.map EntD.dat := by rw [← HZd.out, ← List.map_append]; exact List.mem_map_of_mem hx
      rcases List.mem_append.1 this with z | z
      · obtain ⟨y2, h1, h2⟩ := List.mem_map.1 z
        rw [← h2]; exact (HD.out.outSz K y2 h1).1
      · obtain ⟨y2, h1, h2⟩ := List.mem_map.1 z
        rw [← h2]; exact (HQ1.out y2 h1).1)
    rw [hen] at e1 ⊢
    cases e1
    exact sameAll_ok r (hvw.rdk (fun g _ _ => rfl)) hall (by rw [List.length_append]; exact HLen.out zs HZd.out)
  have z1 := HK3.out _ D3
  go_upto_region 7 with fail
  go_region_held3 (fun Z => (Z.cell? ⟨cN, 0, none⟩ = some (.slice fa fs.length fc) ∧ Z.cell? ⟨cN, 1, none⟩ = some (.int .i64 clock) ∧ Z.cell? ⟨cN, 2, none⟩ = some (.bool major) ∧ Z.cell? ⟨cN, 3, none⟩ = some (.int .i64 low) ∧ Z.cell? ⟨cN, 4, none⟩ = some (.int .i64 t) ∧ Z.cell? ⟨cN, 5, none⟩ = some (.int .i64 nv)) ∧ Z.cell? ⟨q, 3, none⟩ = some (.slice a2 n2 c2) ∧ Z.cell? ⟨q, 2, none⟩ = some (.slice ai ni ci)) (first | exact z1 | exact z2 | exact z3) (first | (go_at_call 98; refine Calls.mono HCw.out ?_; rintro r X4 ⟨va, za, m', rfl, hio, hvw⟩; have b4 : Below X3.heap.size X3 X4 := D3.trans (hvw.below.mono D3.size); have z2 := HK3.out X4 b4; obtain ⟨aa, ca, ea⟩ := hvw.form; subst ea; have HC8 := HCa.out _ _ _ _ _ hio hvw) | (go_at_call 18; refine Calls.mono HC8 ?_; rintro r X5 ⟨rfl, b5⟩; have z3 := HK3.out X5 (b4.trans (b5.mono b4.size))))
  have HB5 := Lib.hid (b4.trans (b5.mono b4.size))
  clear z1 z2 z3 hio hvw b4 b5 HC8 D3 HCw HCa
  have HTl := Lib.hid (hDr _ _ _ HF1.out.rest.wk.tell)
  obtain ⟨p0, hp0⟩ : ∃ c, c = cntS major low V0 := ⟨_, rfl⟩
  obtain ⟨c1, hc1⟩ : ∃ c, c = cntS major low (us ++ (resolveS (mt fs) clock s.dat 3).1) := ⟨_, rfl⟩
  have HSum : Hid (cntS major low (V0 ++ us ++ (resolveS (mt fs) clock s.dat 3).1) = ⟨p0.o + c1.o, p0.m + c1.m, p0.x + c1.x, p0.a + c1.a, p0.k + c1.k⟩) := by unfold Hid; rw [List.append_assoc, cnt_append, ← hp0, ← hc1]
  have HF5a : Hid (∀ Z, Below X5.heap.size X5 Z → Fm B wb g rb q fv fs clock T (some ⟨rb, 0, none⟩) none Z ins (outs ++ zs) la s.begun p0 (.slice ai ni ci) (.slice a2 n2 c2) spZ (OO (V0 ++ us) ++ xs.map EntD.dat) (V0 ++ us ++ (resolveS (mt fs) clock s.dat 3).1) Oi Oo2) := fun Z b => by rw [hp0]; exact HF3.out Z (HB5.out.trans (b.mono HB5.out.size))
  have hok := HTl.out.2
  rw [HSum.out] at hok
  have hlv : (V0 ++ us ++ (resolveS (mt fs) clock s.dat 3).1).length ≤ 1353245080300 := Nat.le_trans HD.out.lens.2.2.2.1 HL.out.2.2
  have hwr : ∀ z : Int, 0 ≤ z → z ≤ ((V0 ++ us ++ (resolveS (mt fs) clock s.dat 3).1).length : Int) → IntKind.i64.wrap z = z := fun z h1 h2 => by simp [IntKind.wrap, IntKind.bits, IntKind.signed]; omega
  have HW0 := Lib.hid (hwr _ hok.1.1 hok.1.2)
  have HW1 := Lib.hid (hwr _ hok.2.1.1 hok.2.1.2)
  have HW2 := Lib.hid (hwr _ hok.2.2.1.1 hok.2.2.1.2)
  have HW3 := Lib.hid (hwr _ hok.2.2.2.1.1 hok.2.2.2.1.2)
  have HW4 := Lib.hid (hwr _ hok.2.2.2.2.1 hok.2.2.2.2.2)
  have HDr := Lib.hid hDr
  have HK5 : Hid (∀ Z, Below X5.heap.size X5 Z → Z.cell? ⟨cN, 0, none⟩ = some (.slice fa fs.length fc) ∧ Z.cell? ⟨cN, 1, none⟩ = some (.int .i64 clock) ∧ Z.cell? ⟨cN, 2, none⟩ = some (.bool major) ∧ Z.cell? ⟨cN, 3, none⟩ = some (.int .i64 low) ∧ Z.cell? ⟨q, 2, none⟩ = some (.slice ai ni ci)) := fun Z b => by
    have z := (HK3.out Z (HB5.out.trans (b.mono HB5.out.size)))
    exact ⟨z.1.1, z.1.2.1, z.1.2.2.1, z.1.2.2.2.1, z.2.2⟩
  have HC9 : Hid (∀ Z, Below X5.heap.size X5 Z → Calls Tryz.prog 99 #[.agg #[.slice fa fs.length fc], .int .i64 clock, .bool major, .int .i64 low, .slice ai ni ci] Z fun r w' => r = .returned (.agg #[.int .i64 c1.o, .int .i64 c1.m, .int .i64 c1.x, .int .i64 c1.a, .int .i64 c1.k]) ∧ Below Z.heap.size Z w') := fun Z b => by
    have f8 := HF5a.out Z b
    obtain ⟨a, c, e1, -, r⟩ := f8.rin.rdl (fun x hx => (HD.out.szi x hx).1)
    have hni := Hni.out
    subst hni
    cases e1
    refine (refDropped_any (HRdF.out Z (HB5.out.trans (b.mono HB5.out.size))) hS clock low major r (by have := HL.out; omega) HD.out.inOrd).mono ?_
    rintro r w' ⟨m', c, rfl, hio, hc, b'⟩
    have hmm := hio.unique HD.out.isOrd
    obtain ⟨s1, s2, s3⟩ := HD.out.pu.state
    have hk : (us ++ (resolveS (mt fs) clock s.dat 3).1).filter kept = ((m.map EntD.dat).map (sv (mt fs) clock (m.map EntD.dat))).filter kept := by
      rw [← verdicts_spec HD.out.isOrd.ah HD.out.isOrd.va]
      unfold verdictsS
      rw [List.filter_append, List.filter_append, s2, ← s1]
    have hll : (us ++ (resolveS (mt fs) clock s.dat 3).1).length = ins.length := by
      rw [HD.out.pu.few.2.1]
      have := congrArg List.length HD.out.li
      simpa using this
    have hcc : c = c1 := by rw [hc, hmm, hc1]; exact (cnt_ref major low hk hll).symm
    subst hcc
    exact ⟨rfl, b'⟩
  have y0 := (HF5a.out X5 (Below.refl _ _)).box.c0
  clear hok hlv hwr hp0 hc1 hDr hS
  go_upto_region 9 with fail
  clear y0
  go_cut [8] (fun p8 wx => ∃ db, p8 = .pointer (some ⟨db, 0, none⟩) ∧ Hid (CtBx wx db c1 ∧ Below X5.heap.size X5 wx ∧ X5.heap.size ≤ db))
  case first =>
    have D0 : Below X5.heap.size X5 X5.drew := (Below.refl _ _).drew
    have hS := HK5.out _ D0
    refine wp_region_noPanic ?_
    refine wp_region_anyE (S := fun Z => Z.cell? ⟨cN, 0, none⟩ = some (.slice fa fs.length fc) ∧ Z.cell? ⟨cN, 1, none⟩ = some (.int .i64 clock) ∧ Z.cell? ⟨cN, 2, none⟩ = some (.bool major) ∧ Z.cell? ⟨cN, 3, none⟩ = some (.int .i64 low) ∧ Z.cell? ⟨q, 2, none⟩ = some (.slice ai ni ci)) (E := fun j => decide (j < 14)) (by kernel_rfl) ?_
    refine anyE_gen (fun A0 hA0 => ?_)
    have s0 : A0.tmps.size = 156 := by rw [hA0]; rfl
    have v0_0 : Tv A0 0 (.pointer (some ⟨q, 0, none⟩)) := by rw [hA0]; rfl
    have v0_3 : Tv A0 3 (.pointer (some ⟨cN, 0, none⟩)) := by rw [hA0]; rfl
    refine AnyE.tk (i := 0) (.pointer (some ⟨cN, 0, none⟩)) rfl (by kernel_rfl) (fun _ _ _ h => h) (by rfl) (fun wq hq => op_fieldC0 v0_3) hS ?_
    refine anyE_gen (fun A1 hA1 => ?_)
    have s1 := tz hA1 s0
    have v1_0 := tn hA1 (by decide) v0_0
    have v1_3 := tn hA1 (by decide) v0_3
    have v1_56 := te hA1 s0 (by decide)
    refine AnyE.tk (i := 1) (.agg #[.slice fa fs.length fc]) rfl (by kernel_rfl) (fun _ _ _ h => h) (by rfl) (fun wq hq => op_loadS v1_56 hq.1) hS ?_
    refine anyE_gen (fun A2 hA2 => ?_)
    have s2 := tz hA2 s1
    have v2_0 := tn hA2 (by decide) v1_0
    have v2_3 := tn hA2 (by decide) v1_3
    have v2_57 := te hA2 s1 (by decide)
    refine AnyE.tk (i := 2) (.pointer (some ⟨cN, 1, none⟩)) rfl (by kernel_rfl) (fun _ _ _ h => h) (by rfl) (fun wq hq => op_fieldC1 v2_3) hS ?_
    refine anyE_gen (fun A3 hA3 => ?_)
    have s3 := tz hA3 s2
    have v3_0 := tn hA3 (by decide) v2_0
    have v3_3 := tn hA3 (by decide) v2_3
    have v3_57 := tn hA3 (by decide) v2_57
    have v3_58 := te hA3 s2 (by decide)
    refine AnyE.tk (i := 3) (.int .i64 clock) rfl (by kernel_rfl) (fun _ _ _ h => h) (by rfl) (fun wq hq => op_loadI v3_58 hq.2.1) hS ?_
    refine anyE_gen (fun A4 hA4 => ?_)
    have s4 := tz hA4 s3
    have v4_0 := tn hA4 (by decide) v3_0
    have v4_3 := tn hA4 (by decide) v3_3
    have v4_57 := tn hA4 (by decide) v3_57
    have v4_59 := te hA4 s3 (by decide)
    refine AnyE.tk (i := 4) (.pointer (some ⟨cN, 2, none⟩)) rfl (by kernel_rfl) (fun _ _ _ h => h) (by rfl) (fun wq hq => op_fieldC2 v4_3) hS ?_
    refine anyE_gen (fun A5 hA5 => ?_)
    have s5 := tz hA5 s4
    have v5_0 := tn hA5 (by decide) v4_0
    have v5_3 := tn hA5 (by decide) v4_3
    have v5_57 := tn hA5 (by decide) v4_57
    have v5_59 := tn hA5 (by decide) v4_59
    have v5_60 := te hA5 s4 (by decide)
    refine AnyE.tk (i := 5) (.bool major) rfl (by kernel_rfl) (fun _ _ _ h => h) (by rfl) (fun wq hq => op_loadB v5_60 hq.2.2.1) hS ?_
    refine anyE_gen (fun A6 hA6 => ?_)
    have s6 := tz hA6 s5
    have v6_0 := tn hA6 (by decide) v5_0
    have v6_3 := tn hA6 (by decide) v5_3
    have v6_57 := tn hA6 (by decide) v5_57
    have v6_59 := tn hA6 (by decide) v5_59
    have v6_61 := te hA6 s5 (by decide)
    refine AnyE.tk (i := 6) (.pointer (some ⟨cN, 3, none⟩)) rfl (by kernel_rfl) (fun _ _ _ h => h) (by rfl) (fun wq hq => op_fieldC3 v6_3) hS ?_
    refine anyE_gen (fun A7 hA7 => ?_)
    have s7 := tz hA7 s6
    have v7_0 := tn hA7 (by decide) v6_0
    have v7_57 := tn hA7 (by decide) v6_57
    have v7_59 := tn hA7 (by decide) v6_59
    have v7_61 := tn hA7 (by decide) v6_61
    have v7_62 := te hA7 s6 (by decide)
    refine AnyE.tk (i := 7) (.int .i64 low) rfl (by kernel_rfl) (fun _ _ _ h => h) (by rfl) (fun wq hq => op_loadI v7_62 hq.2.2.2.1) hS ?_
    refine anyE_gen (fun A8 hA8 => ?_)
    have s8 := tz hA8 s7
    have v8_0 := tn hA8 (by decide) v7_0
    have v8_57 := tn hA8 (by decide) v7_57
    have v8_59 := tn hA8 (by decide) v7_59
    have v8_61 := tn hA8 (by decide) v7_61
    have v8_63 := te hA8 s7 (by decide)
    refine AnyE.tk (i := 8) (.pointer (some ⟨q, 0, none⟩)) rfl (by kernel_rfl) (fun _ _ _ h => h) (by rfl) (fun wq hq => op_move v8_0) hS ?_
    refine anyE_gen (fun A9 hA9 => ?_)
    have s9 := tz hA9 s8
    have v9_57 := tn hA9 (by decide) v8_57
    have v9_59 := tn hA9 (by decide) v8_59
    have v9_61 := tn hA9 (by decide) v8_61
    have v9_63 := tn hA9 (by decide) v8_63
    have v9_64 := te hA9 s8 (by decide)
    refine AnyE.tk (i := 9) (.pointer (some ⟨q, 0, none⟩)) rfl (by kernel_rfl) (fun _ _ _ h => h) (by rfl) (fun wq hq => op_nil v9_64) hS ?_
    refine anyE_gen (fun A10 hA10 => ?_)
    have s10 := tz hA10 s9
    have v10_57 := tn hA10 (by decide) v9_57
    have v10_59 := tn hA10 (by decide) v9_59
    have v10_61 := tn hA10 (by decide) v9_61
    have v10_63 := tn hA10 (by decide) v9_63
    have v10_65 := te hA10 s9 (by decide)
    refine AnyE.tk (i := 10) (.pointer (some ⟨q, 2, none⟩)) rfl (by kernel_rfl) (fun _ _ _ h => h) (by rfl) (fun wq hq => op_fieldI v10_65) hS ?_
    refine anyE_gen (fun A11 hA11 => ?_)
    have s11 := tz hA11 s10
    have v11_57 := tn hA11 (by decide) v10_57
    have v11_59 := tn hA11 (by decide) v10_59
    have v11_61 := tn hA11 (by decide) v10_61
    have v11_63 := tn hA11 (by decide) v10_63
    have v11_66 := te hA11 s10 (by decide)
    refine AnyE.tk (i := 11) (.slice ai ni ci) rfl (by kernel_rfl) (fun _ _ _ h => h) (by rfl) (fun wq hq => op_loadLi v11_66 hq.2.2.2.2) hS ?_
    refine anyE_gen (fun A12 hA12 => ?_)
    have s12 := tz hA12 s11
    have v12_57 := tn hA12 (by decide) v11_57
    have v12_59 := tn hA12 (by decide) v11_59
    have v12_61 := tn hA12 (by decide) v11_61
    have v12_63 := tn hA12 (by decide) v11_63
    have v12_67 := te hA12 s11 (by decide)
    refine AnyE.two (i := 12) (j := 13) rfl rfl (by kernel_rfl) (by rfl) (by rfl) (fun K12 hK12 => ?_) (fun K12 hK12 => ?_)
    · refine wp_droppedA v12_57 v12_59 v12_61 v12_63 v12_67 (HC9.out _ D0) ?_
      rintro r1 w1 ⟨rfl, b1⟩
      have D1 := D0.trans (b1.mono D0.size)
      refine ⟨_, rfl, hK12.out _ _ ⟨fun _ => HK5.out _ D1, ?_⟩⟩
      clear hK12
      refine anyE_gen (fun A13 hA13 => ?_)
      have s13 : A13.tmps.size = 156 := by rw [hA13]; exact put_sz s12
      have v13_68 : A13.tmps[68]?.getD undef = (.agg #[.int .i64 c1.o, .int .i64 c1.m, .int .i64 c1.x, .int .i64 c1.a, .int .i64 c1.k]) := by rw [hA13]; exact put_eq s12 (by decide)
      refine AnyE.one (i := 13) rfl (by kernel_rfl) (by rfl) (fun K13 hK13 => ?_)
      refine wp_allocCt ?_
      have D2 := D1.alloc D1.size (.cells #[.int .i64 0, .int .i64 0, .int .i64 0, .int .i64 0, .int .i64 0] 105)
      have cz : CtBx (w1.alloc (.cells #[.int .i64 0, .int .i64 0, .int .i64 0, .int .i64 0, .int .i64 0] 105)) w1.heap.size ⟨0, 0, 0, 0, 0⟩ := heap_new w1 _
      refine hK13.out _ _ ⟨fun _ => HK5.out _ D2, ?_⟩
      clear hK13
      refine anyE_gen (fun A14 hA14 => ?_)
      have v14_68 : A14.tmps[68]?.getD undef = (.agg #[.int .i64 c1.o, .int .i64 c1.m, .int .i64 c1.x, .int .i64 c1.a, .int .i64 c1.k]) := by rw [hA14]; exact put_ne (by decide) v13_68
      have v14_8 : A14.tmps[8]?.getD undef = (.pointer (some ⟨w1.heap.size, 0, none⟩)) := by rw [hA14]; exact put_eq s13 (by decide)
      refine AnyE.one (i := 14) rfl (by kernel_rfl) (by rfl) (fun K14 hK14 => ?_)
      refine wp_storeCt cz v14_8 v14_68 (fun Y hY gY => ?_)
      refine hK14.out _ _ ⟨fun h => (by cases h), ?_⟩
      clear hK14
      refine AnyE.done (by kernel_rfl) (NoPanic.normal ?_) _
      clear v14_68 v14_8 v13_68 s13
      clear s0 v0_0 v0_3 s1 v1_0 v1_3 v1_56 s2 v2_0 v2_3 v2_57 s3 v3_0 v3_3 v3_57 v3_58 s4 v4_0 v4_3 v4_57 v4_59 s5 v5_0 v5_3 v5_57 v5_59 v5_60 s6 v6_0 v6_3 v6_57 v6_59 v6_61 s7 v7_0 v7_57 v7_59 v7_61 v7_62 s8 v8_0 v8_57 v8_59 v8_61 v8_63 s9 v9_57 v9_59 v9_61 v9_63 v9_64 s10 v10_57 v10_59 v10_61 v10_63 v10_65 s11 v11_57 v11_59 v11_61 v11_63 v11_66 s12 v12_57 v12_59 v12_61 v12_63 v12_67
      subst hA14 hA13 hA12 hA11 hA10 hA9 hA8 hA7 hA6 hA5 hA4 hA3 hA2 hA1 hA0
      have HR9 : Hid (CtBx Y w1.heap.size c1 ∧ Below X5.heap.size X5 Y ∧ X5.heap.size ≤ w1.heap.size) := ⟨hY, below_of_heap D2 D2.size gY.os gY.tape gY.output gY.size (fun i h1 h2 => gY.block i h1 (fun z => by have := Option.some.inj z; have := D1.size; omega)), D1.size⟩
      clear hY gY cz D2 D1 b1 D0 hS
      go_simp
      go_step
      go_meet
      exact ⟨_, rfl, HR9⟩
    · refine wp_allocCt ?_
      have D1 := D0.alloc D0.size (.cells #[.int .i64 0, .int .i64 0, .int .i64 0, .int .i64 0, .int .i64 0] 105)
      have cz : CtBx (X5.drew.alloc (.cells #[.int .i64 0, .int .i64 0, .int .i64 0, .int .i64 0, .int .i64 0] 105)) X5.drew.heap.size ⟨0, 0, 0, 0, 0⟩ := heap_new X5.drew _
      refine hK12.out _ _ ⟨fun _ => HK5.out _ D1, ?_⟩
      clear hK12
      refine anyE_gen (fun A13 hA13 => ?_)
      have s13 : A13.tmps.size = 156 := by rw [hA13]; exact put_sz s12
      have v13_8 : A13.tmps[8]?.getD undef = (.pointer (some ⟨X5.drew.heap.size, 0, none⟩)) := by rw [hA13]; exact put_eq s12 (by decide)
      have v13_57 : A13.tmps[57]?.getD undef = (.agg #[.slice fa fs.length fc]) := by rw [hA13]; exact put_ne (by decide) v12_57
      have v13_59 : A13.tmps[59]?.getD undef = (.int .i64 clock) := by rw [hA13]; exact put_ne (by decide) v12_59
      have v13_61 : A13.tmps[61]?.getD undef = (.bool major) := by rw [hA13]; exact put_ne (by decide) v12_61
      have v13_63 : A13.tmps[63]?.getD undef = (.int .i64 low) := by rw [hA13]; exact put_ne (by decide) v12_63
      have v13_67 : A13.tmps[67]?.getD undef = (.slice ai ni ci) := by rw [hA13]; exact put_ne (by decide) v12_67
      refine AnyE.one (i := 12) rfl (by kernel_rfl) (by rfl) (fun K13 hK13 => ?_)
      refine wp_droppedA v13_57 v13_59 v13_61 v13_63 v13_67 (HC9.out _ D1) ?_
      rintro r1 w1 ⟨rfl, b1⟩
      have D2 := D1.trans (b1.mono D1.size)
      have cz2 : CtBx w1 X5.drew.heap.size ⟨0, 0, 0, 0, 0⟩ := cz.later b1
      refine ⟨_, rfl, hK13.out _ _ ⟨fun _ => HK5.out _ D2, ?_⟩⟩
      clear hK13
      refine anyE_gen (fun A14 hA14 => ?_)
      have v14_68 : A14.tmps[68]?.getD undef = (.agg #[.int .i64 c1.o, .int .i64 c1.m, .int .i64 c1.x, .int .i64 c1.a, .int .i64 c1.k]) := by rw [hA14]; exact put_eq s13 (by decide)
      have v14_8 : A14.tmps[8]?.getD undef = (.pointer (some ⟨X5.drew.heap.size, 0, none⟩)) := by rw [hA14]; exact put_ne (by decide) v13_8
      refine AnyE.one (i := 14) rfl (by kernel_rfl) (by rfl) (fun K14 hK14 => ?_)
      refine wp_storeCt cz2 v14_8 v14_68 (fun Y hY gY => ?_)
      refine hK14.out _ _ ⟨fun h => (by cases h), ?_⟩
      clear hK14
      refine AnyE.done (by kernel_rfl) (NoPanic.normal ?_) _
      clear v14_68 v14_8 v13_8 v13_57 v13_59 v13_61 v13_63 v13_67 s13
      clear s0 v0_0 v0_3 s1 v1_0 v1_3 v1_56 s2 v2_0 v2_3 v2_57 s3 v3_0 v3_3 v3_57 v3_58 s4 v4_0 v4_3 v4_57 v4_59 s5 v5_0 v5_3 v5_57 v5_59 v5_60 s6 v6_0 v6_3 v6_57 v6_59 v6_61 s7 v7_0 v7_57 v7_59 v7_61 v7_62 s8 v8_0 v8_57 v8_59 v8_61 v8_63 s9 v9_57 v9_59 v9_61 v9_63 v9_64 s10 v10_57 v10_59 v10_61 v10_63 v10_65 s11 v11_57 v11_59 v11_61 v11_63 v11_66 s12 v12_57 v12_59 v12_61 v12_63 v12_67
      subst hA14 hA13 hA12 hA11 hA10 hA9 hA8 hA7 hA6 hA5 hA4 hA3 hA2 hA1 hA0
      have HR9 : Hid (CtBx Y X5.heap.size c1 ∧ Below X5.heap.size X5 Y ∧ X5.heap.size ≤ X5.heap.size) := ⟨hY, below_of_heap D2 D2.size gY.os gY.tape gY.output gY.size (fun i h1 h2 => gY.block i h1 (fun z => by have e : i = X5.heap.size := Option.some.inj z; omega)), Nat.le_refl _⟩
      clear hY gY cz cz2 D2 D1 b1 D0 hS
      go_simp
      go_step
      go_meet
      exact ⟨_, rfl, HR9⟩
  case rest =>
  obtain ⟨db, rfl, HR9⟩ := hcut
  obtain ⟨Y0, hY0⟩ : ∃ Y, Y = wc := ⟨_, rfl⟩
  subst hY0
  have HdbQ : Hid (db ≠ q ∧ X5.heap.size ≤ db) := ⟨fun z => by have := (HF5a.out X5 (Below.refl _ _)).box.lt; have := HR9.out.2.2; omega, HR9.out.2.2⟩
  have HY0 : Hid (∀ Z, Below Y0.heap.size Y0 Z → (Fm B wb g rb q fv fs clock T (some ⟨rb, 0, none⟩) none Z ins (outs ++ zs) la s.begun p0 (.slice ai ni ci) (.slice a2 n2 c2) spZ (OO (V0 ++ us) ++ xs.map EntD.dat) (V0 ++ us ++ (resolveS (mt fs) clock s.dat 3).1) Oi Oo2) ∧ CtBx Z db c1) := fun Z b => ⟨HF5a.out Z (HR9.out.2.1.trans (b.mono HR9.out.2.1.size)), HR9.out.1.later b⟩
  have HSpY0 : Hid (SpF X5 Y0 (fun i => i = q)) := SpF.of_below _ HR9.out.2.1
  go_upto_region 10 with fail
  have D0 : Below Y0.heap.size Y0 Y0.drew := (Below.refl _ _).drew
  have HS0 : Hid (∀ Z, Below Y0.heap.size Y0 Z → Z.cell? ⟨q, 12, none⟩ = some (.int .i64 p0.o) ∧ Z.cell? ⟨db, 0, none⟩ = some (.int .i64 c1.o)) := fun Z b => ⟨(HY0.out Z b).1.box.c12, (HY0.out Z b).2.c0⟩
  have hS := HS0.out _ D0
  refine wp_region_noPanic ?_
  refine wp_region_anyE (S := fun Z => Z.cell? ⟨q, 12, none⟩ = some (.int .i64 p0.o) ∧ Z.cell? ⟨db, 0, none⟩ = some (.int .i64 c1.o)) (E := fun j => decide (j < 12)) (by kernel_rfl) ?_
  refine anyE_gen (fun A0 hA0 => ?_)
  have s0 : A0.tmps.size = 156 := by rw [hA0]; rfl
  have v0_0 : Tv A0 0 (.pointer (some ⟨q, 0, none⟩)) := by rw [hA0]; rfl
  have v0_8 : Tv A0 8 (.pointer (some ⟨db, 0, none⟩)) := by rw [hA0]; rfl
  refine AnyE.tk (i := 0) (.pointer (some ⟨q, 0, none⟩)) rfl (by kernel_rfl) (fun _ _ _ h => h) (by rfl) (fun wq hq => op_move v0_0) hS ?_
  refine anyE_gen (fun A1 hA1 => ?_)
  have s1 := tz hA1 s0
  have v1_0 := tn hA1 (by decide) v0_0
  have v1_8 := tn hA1 (by decide) v0_8
  have v1_69 := te hA1 s0 (by decide)
  refine AnyE.tk (i := 1) (.pointer (some ⟨q, 0, none⟩)) rfl (by kernel_rfl) (fun _ _ _ h => h) (by rfl) (fun wq hq => op_move v1_0) hS ?_
  refine anyE_gen (fun A2 hA2 => ?_)
  have s2 := tz hA2 s1
  have v2_8 := tn hA2 (by decide) v1_8
  have v2_69 := tn hA2 (by decide) v1_69
  have v2_70 := te hA2 s1 (by decide)
  refine AnyE.tk (i := 2) (.pointer (some ⟨q, 0, none⟩)) rfl (by kernel_rfl) (fun _ _ _ h => h) (by rfl) (fun wq hq => op_nil v2_70) hS ?_
  refine anyE_gen (fun A3 hA3 => ?_)
  have s3 := tz hA3 s2
  have v3_8 := tn hA3 (by decide) v2_8
  have v3_69 := tn hA3 (by decide) v2_69
  have v3_71 := te hA3 s2 (by decide)
  refine AnyE.tk (i := 3) (.pointer (some ⟨q, 12, none⟩)) rfl (by kernel_rfl) (fun _ _ _ h => h) (by rfl) (fun wq hq => op_fieldD v3_71) hS ?_
  refine anyE_gen (fun A4 hA4 => ?_)
  have s4 := tz hA4 s3
  have v4_8 := tn hA4 (by decide) v3_8
  have v4_69 := tn hA4 (by decide) v3_69
  have v4_72 := te hA4 s3 (by decide)
  refine AnyE.tk (i := 4) (.pointer (some ⟨q, 12 + 0, none⟩)) rfl (by kernel_rfl) (fun _ _ _ h => h) (by rfl) (fun wq hq => op_fieldK0 v4_72) hS ?_
  refine anyE_gen (fun A5 hA5 => ?_)
  have s5 := tz hA5 s4
  have v5_8 := tn hA5 (by decide) v4_8
  have v5_69 := tn hA5 (by decide) v4_69
  have v5_73 := te hA5 s4 (by decide)
  refine AnyE.tk (i := 5) (.int .i64 p0.o) rfl (by kernel_rfl) (fun _ _ _ h => h) (by rfl) (fun wq hq => op_loadI v5_73 hq.1) hS ?_
  refine anyE_gen (fun A6 hA6 => ?_)
  have s6 := tz hA6 s5
  have v6_8 := tn hA6 (by decide) v5_8
  have v6_69 := tn hA6 (by decide) v5_69
  have v6_74 := te hA6 s5 (by decide)
  refine AnyE.tk (i := 6) (.pointer (some ⟨db, 0 + 0, none⟩)) rfl (by kernel_rfl) (fun _ _ _ h => h) (by rfl) (fun wq hq => op_fieldK0 v6_8) hS ?_
  refine anyE_gen (fun A7 hA7 => ?_)
  have s7 := tz hA7 s6
  have v7_69 := tn hA7 (by decide) v6_69
  have v7_74 := tn hA7 (by decide) v6_74
  have v7_75 := te hA7 s6 (by decide)
  refine AnyE.tk (i := 7) (.int .i64 c1.o) rfl (by kernel_rfl) (fun _ _ _ h => h) (by rfl) (fun wq hq => op_loadI v7_75 (by simpa using hq.2)) hS ?_
  refine anyE_gen (fun A8 hA8 => ?_)
  have s8 := tz hA8 s7
  have v8_69 := tn hA8 (by decide) v7_69
  have v8_74 := tn hA8 (by decide) v7_74
  have v8_76 := te hA8 s7 (by decide)
  refine AnyE.tk (i := 8) (.int .i64 (p0.o + c1.o)) rfl (by kernel_rfl) (fun _ _ _ h => h) (by rfl) (fun wq hq => op_addI v8_74 v8_76 HW0.out) hS ?_
  refine anyE_gen (fun A9 hA9 => ?_)
  have s9 := tz hA9 s8
  have v9_69 := tn hA9 (by decide) v8_69
  have v9_77 := te hA9 s8 (by decide)
  refine AnyE.one (i := 9) rfl (by kernel_rfl) (by rfl) (fun K9 hK9 => ?_)
  refine wp_nil0 v9_69 ?_
  refine hK9.out _ _ ⟨fun _ => hS, ?_⟩
  clear hK9
  refine anyE_gen (fun A10 hA10 => ?_)
  have s10 := tz hA10 s9
  have v10_77 := tn hA10 (by decide) v9_77
  have v10_78 := te hA10 s9 (by decide)
  refine AnyE.one (i := 10) rfl (by kernel_rfl) (by rfl) (fun K10 hK10 => ?_)
  refine wp_fieldD v10_78 ?_
  refine hK10.out _ _ ⟨fun _ => hS, ?_⟩
  clear hK10
  refine anyE_gen (fun A11 hA11 => ?_)
  have s11 := tz hA11 s10
  have v11_77 := tn hA11 (by decide) v10_77
  have v11_79 := te hA11 s10 (by decide)
  refine AnyE.one (i := 11) rfl (by kernel_rfl) (by rfl) (fun K11 hK11 => ?_)
  refine wp_fieldK0 v11_79 ?_
  refine hK11.out _ _ ⟨fun _ => hS, ?_⟩
  clear hK11
  refine anyE_gen (fun A12 hA12 => ?_)
  have s12 := tz hA12 s11
  have v12_77 := tn hA12 (by decide) v11_77
  have v12_80 := te hA12 s11 (by decide)
  refine AnyE.one (i := 12) rfl (by kernel_rfl) (by rfl) (fun K12 hK12 => ?_)
  refine wp_storeI hS.1 ((HY0.out _ D0).1.box.fz 12) v12_80 v12_77 ?_
  refine hK12.out _ _ ⟨fun h => (by cases h), ?_⟩
  clear hK12
  refine AnyE.done (by kernel_rfl) (NoPanic.normal ?_) _
  clear s0 v0_0 v0_8 s1 v1_0 v1_8 v1_69 s2 v2_8 v2_69 v2_70 s3 v3_8 v3_69 v3_71 s4 v4_8 v4_69 v4_72 s5 v5_8 v5_69 v5_73 s6 v6_8 v6_69 v6_74 s7 v7_69 v7_74 v7_75 s8 v8_69 v8_74 v8_76 s9 v9_69 v9_77 s10 v10_77 v10_78 s11 v11_77 v11_79 s12 v12_77 v12_80
  subst hA12 hA11 hA10 hA9 hA8 hA7 hA6 hA5 hA4 hA3 hA2 hA1 hA0
  have hf0 := (HY0.out _ D0).1
  have hn0 := hf0.boxed H (ct' := (⟨p0.o + c1.o, p0.m, p0.x, p0.a, p0.k⟩ : Ct)) (hf0.box.set_o (p0.o + c1.o)) (grown1 Y0.drew q 12 (.int .i64 (p0.o + c1.o)))
  have hc0 : CtBx (Y0.drew.setCell ⟨q, 12, none⟩ (.int .i64 (p0.o + c1.o))) db c1 := ((HY0.out _ D0).2).keep (Below.heap_setCell _ _ _ _ HdbQ.out.1)
  have hsp0 : SpF X5 (Y0.drew.setCell ⟨q, 12, none⟩ (.int .i64 (p0.o + c1.o))) (fun i => i = q) := (SpF.below HSpY0.out D0).grown (grown1 Y0.drew q 12 (.int .i64 (p0.o + c1.o))) (fun k hk => (Option.some.inj hk).symm)
  obtain ⟨Y1, hY1⟩ : ∃ Y, Y = Y0.drew.setCell ⟨q, 12, none⟩ (.int .i64 (p0.o + c1.o)) := ⟨_, rfl⟩
  rw [← hY1] at hn0 hc0 hsp0
  rw [← hY1]
  have HY1 : Hid (∀ Z, Below Y1.heap.size Y1 Z → (Fm B wb g rb q fv fs clock T (some ⟨rb, 0, none⟩) none Z ins (outs ++ zs) la s.begun (⟨p0.o + c1.o, p0.m, p0.x, p0.a, p0.k⟩ : Ct) (.slice ai ni ci) (.slice a2 n2 c2) spZ (OO (V0 ++ us) ++ xs.map EntD.dat) (V0 ++ us ++ (resolveS (mt fs) clock s.dat 3).1) Oi Oo2) ∧ CtBx Z db c1) := fun Z b => ⟨hn0.later H b, hc0.later b⟩
  have HSpY1 := Lib.hid hsp0
  clear hY1 hf0 hn0 hc0 hsp0 D0 hS HS0
  go_simp
  go_upto_region 11 with fail
  have D0 : Below Y1.heap.size Y1 Y1.drew := (Below.refl _ _).drew
  have HS1 : Hid (∀ Z, Below Y1.heap.size Y1 Z → Z.cell? ⟨q, 13, none⟩ = some (.int .i64 p0.m) ∧ Z.cell? ⟨db, 1, none⟩ = some (.int .i64 c1.m)) := fun Z b => ⟨(HY1.out Z b).1.box.c13, (HY1.out Z b).2.c1⟩
  have hS := HS1.out _ D0
  refine wp_region_noPanic ?_
  refine wp_region_anyE (S := fun Z => Z.cell? ⟨q, 13, none⟩ = some (.int .i64 p0.m) ∧ Z.cell? ⟨db, 1, none⟩ = some (.int .i64 c1.m)) (E := fun j => decide (j < 12)) (by kernel_rfl) ?_
  refine anyE_gen (fun A0 hA0 => ?_)
  have s0 : A0.tmps.size = 156 := by rw [hA0]; rfl
  have v0_0 : Tv A0 0 (.pointer (some ⟨q, 0, none⟩)) := by rw [hA0]; rfl
  have v0_8 : Tv A0 8 (.pointer (some ⟨db, 0, none⟩)) := by rw [hA0]; rfl
  refine AnyE.tk (i := 0) (.pointer (some ⟨q, 0, none⟩)) rfl (by kernel_rfl) (fun _ _ _ h => h) (by rfl) (fun wq hq => op_move v0_0) hS ?_
  refine anyE_gen (fun A1 hA1 => ?_)
  have s1 := tz hA1 s0
  have v1_0 := tn hA1 (by decide) v0_0
  have v1_8 := tn hA1 (by decide) v0_8
  have v1_81 := te hA1 s0 (by decide)
  refine AnyE.tk (i := 1) (.pointer (some ⟨q, 0, none⟩)) rfl (by kernel_rfl) (fun _ _ _ h => h) (by rfl) (fun wq hq => op_move v1_0) hS ?_
  refine anyE_gen (fun A2 hA2 => ?_)
  have s2 := tz hA2 s1
  have v2_8 := tn hA2 (by decide) v1_8
  have v2_81 := tn hA2 (by decide) v1_81
  have v2_82 := te hA2 s1 (by decide)
  refine AnyE.tk (i := 2) (.pointer (some ⟨q, 0, none⟩)) rfl (by kernel_rfl) (fun _ _ _ h => h) (by rfl) (fun wq hq => op_nil v2_82) hS ?_
  refine anyE_gen (fun A3 hA3 => ?_)
  have s3 := tz hA3 s2
  have v3_8 := tn hA3 (by decide) v2_8
  have v3_81 := tn hA3 (by decide) v2_81
  have v3_83 := te hA3 s2 (by decide)
  refine AnyE.tk (i := 3) (.pointer (some ⟨q, 12, none⟩)) rfl (by kernel_rfl) (fun _ _ _ h => h) (by rfl) (fun wq hq => op_fieldD v3_83) hS ?_
  refine anyE_gen (fun A4 hA4 => ?_)
  have s4 := tz hA4 s3
  have v4_8 := tn hA4 (by decide) v3_8
  have v4_81 := tn hA4 (by decide) v3_81
  have v4_84 := te hA4 s3 (by decide)
  refine AnyE.tk (i := 4) (.pointer (some ⟨q, 12 + 1, none⟩)) rfl (by kernel_rfl) (fun _ _ _ h => h) (by rfl) (fun wq hq => op_fieldK1 v4_84) hS ?_
  refine anyE_gen (fun A5 hA5 => ?_)
  have s5 := tz hA5 s4
  have v5_8 := tn hA5 (by decide) v4_8
  have v5_81 := tn hA5 (by decide) v4_81
  have v5_85 := te hA5 s4 (by decide)
  refine AnyE.tk (i := 5) (.int .i64 p0.m) rfl (by kernel_rfl) (fun _ _ _ h => h) (by rfl) (fun wq hq => op_loadI v5_85 hq.1) hS ?_
  refine anyE_gen (fun A6 hA6 => ?_)
  have s6 := tz hA6 s5
  have v6_8 := tn hA6 (by decide) v5_8
  have v6_81 := tn hA6 (by decide) v5_81
  have v6_86 := te hA6 s5 (by decide)
  refine AnyE.tk (i := 6) (.pointer (some ⟨db, 0 + 1, none⟩)) rfl (by kernel_rfl) (fun _ _ _ h => h) (by rfl) (fun wq hq => op_fieldK1 v6_8) hS ?_
  refine anyE_gen (fun A7 hA7 => ?_)
  have s7 := tz hA7 s6
  have v7_81 := tn hA7 (by decide) v6_81
  have v7_86 := tn hA7 (by decide) v6_86
  have v7_87 := te hA7 s6 (by decide)
  refine AnyE.tk (i := 7) (.int .i64 c1.m) rfl (by kernel_rfl) (fun _ _ _ h => h) (by rfl) (fun wq hq => op_loadI v7_87 (by simpa using hq.2)) hS ?_
  refine anyE_gen (fun A8 hA8 => ?_)
  have s8 := tz hA8 s7
  have v8_81 := tn hA8 (by decide) v7_81
  have v8_86 := tn hA8 (by decide) v7_86
  have v8_88 := te hA8 s7 (by decide)
  refine AnyE.tk (i := 8) (.int .i64 (p0.m + c1.m)) rfl (by kernel_rfl) (fun _ _ _ h => h) (by rfl) (fun wq hq => op_addI v8_86 v8_88 HW1.out) hS ?_
  refine anyE_gen (fun A9 hA9 => ?_)
  have s9 := tz hA9 s8
  have v9_81 := tn hA9 (by decide) v8_81
  have v9_89 := te hA9 s8 (by decide)
  refine AnyE.one (i := 9) rfl (by kernel_rfl) (by rfl) (fun K9 hK9 => ?_)
  refine wp_nil0 v9_81 ?_
  refine hK9.out _ _ ⟨fun _ => hS, ?_⟩
  clear hK9
  refine anyE_gen (fun A10 hA10 => ?_)
  have s10 := tz hA10 s9
  have v10_89 := tn hA10 (by decide) v9_89
  have v10_90 := te hA10 s9 (by decide)
  refine AnyE.one (i := 10) rfl (by kernel_rfl) (by rfl) (fun K10 hK10 => ?_)
  refine wp_fieldD v10_90 ?_
  refine hK10.out _ _ ⟨fun _ => hS, ?_⟩
  clear hK10
  refine anyE_gen (fun A11 hA11 => ?_)
  have s11 := tz hA11 s10
  have v11_89 := tn hA11 (by decide) v10_89
  have v11_91 := te hA11 s10 (by decide)
  refine AnyE.one (i := 11) rfl (by kernel_rfl) (by rfl) (fun K11 hK11 => ?_)
  refine wp_fieldK1 v11_91 ?_
  refine hK11.out _ _ ⟨fun _ => hS, ?_⟩
  clear hK11
  refine anyE_gen (fun A12 hA12 => ?_)
  have s12 := tz hA12 s11
  have v12_89 := tn hA12 (by decide) v11_89
  have v12_92 := te hA12 s11 (by decide)
  refine AnyE.one (i := 12) rfl (by kernel_rfl) (by rfl) (fun K12 hK12 => ?_)
  refine wp_storeI hS.1 ((HY1.out _ D0).1.box.fz 13) v12_92 v12_89 ?_
  refine hK12.out _ _ ⟨fun h => (by cases h), ?_⟩
  clear hK12
  refine AnyE.done (by kernel_rfl) (NoPanic.normal ?_) _
  clear s0 v0_0 v0_8 s1 v1_0 v1_8 v1_81 s2 v2_8 v2_81 v2_82 s3 v3_8 v3_81 v3_83 s4 v4_8 v4_81 v4_84 s5 v5_8 v5_81 v5_85 s6 v6_8 v6_81 v6_86 s7 v7_81 v7_86 v7_87 s8 v8_81 v8_86 v8_88 s9 v9_81 v9_89 s10 v10_89 v10_90 s11 v11_89 v11_91 s12 v12_89 v12_92
  subst hA12 hA11 hA10 hA9 hA8 hA7 hA6 hA5 hA4 hA3 hA2 hA1 hA0
  have hf1 := (HY1.out _ D0).1
  have hn1 := hf1.boxed H (ct' := (⟨p0.o + c1.o, p0.m + c1.m, p0.x, p0.a, p0.k⟩ : Ct)) (hf1.box.set_m (p0.m + c1.m)) (grown1 Y1.drew q 13 (.int .i64 (p0.m + c1.m)))
  have hc1 : CtBx (Y1.drew.setCell ⟨q, 13, none⟩ (.int .i64 (p0.m + c1.m))) db c1 := ((HY1.out _ D0).2).keep (Below.heap_setCell _ _ _ _ HdbQ.out.1)
  have hsp1 : SpF X5 (Y1.drew.setCell ⟨q, 13, none⟩ (.int .i64 (p0.m + c1.m))) (fun i => i = q) := (SpF.below HSpY1.out D0).grown (grown1 Y1.drew q 13 (.int .i64 (p0.m + c1.m))) (fun k hk => (Option.some.inj hk).symm)
  obtain ⟨Y2, hY2⟩ : ∃ Y, Y = Y1.drew.setCell ⟨q, 13, none⟩ (.int .i64 (p0.m + c1.m)) := ⟨_, rfl⟩
  rw [← hY2] at hn1 hc1 hsp1
  rw [← hY2]
  have HY2 : Hid (∀ Z, Below Y2.heap.size Y2 Z → (Fm B wb g rb q fv fs clock T (some ⟨rb, 0, none⟩) none Z ins (outs ++ zs) la s.begun (⟨p0.o + c1.o, p0.m + c1.m, p0.x, p0.a, p0.k⟩ : Ct) (.slice ai ni ci) (.slice a2 n2 c2) spZ (OO (V0 ++ us) ++ xs.map EntD.dat) (V0 ++ us ++ (resolveS (mt fs) clock s.dat 3).1) Oi Oo2) ∧ CtBx Z db c1) := fun Z b => ⟨hn1.later H b, hc1.later b⟩
  have HSpY2 := Lib.hid hsp1
  clear hY2 hf1 hn1 hc1 hsp1 D0 hS HS1
  go_simp
  go_upto_region 12 with fail
  have D0 : Below Y2.heap.size Y2 Y2.drew := (Below.refl _ _).drew
  have HS2 : Hid (∀ Z, Below Y2.heap.size Y2 Z → Z.cell? ⟨q, 14, none⟩ = some (.int .i64 p0.x) ∧ Z.cell? ⟨db, 2, none⟩ = some (.int .i64 c1.x)) := fun Z b => ⟨(HY2.out Z b).1.box.c14, (HY2.out Z b).2.c2⟩
  have hS := HS2.out _ D0
  refine wp_region_noPanic ?_
  refine wp_region_anyE (S := fun Z => Z.cell? ⟨q, 14, none⟩ = some (.int .i64 p0.x) ∧ Z.cell? ⟨db, 2, none⟩ = some (.int .i64 c1.x)) (E := fun j => decide (j < 12)) (by kernel_rfl) ?_
  refine anyE_gen (fun A0 hA0 => ?_)
  have s0 : A0.tmps.size = 156 := by rw [hA0]; rfl
  have v0_0 : Tv A0 0 (.pointer (some ⟨q, 0, none⟩)) := by rw [hA0]; rfl
  have v0_8 : Tv A0 8 (.pointer (some ⟨db, 0, none⟩)) := by rw [hA0]; rfl
  refine AnyE.tk (i := 0) (.pointer (some ⟨q, 0, none⟩)) rfl (by kernel_rfl) (fun _ _ _ h => h) (by rfl) (fun wq hq => op_move v0_0) hS ?_
  refine anyE_gen (fun A1 hA1 => ?_)
  have s1 := tz hA1 s0
  have v1_0 := tn hA1 (by decide) v0_0
  have v1_8 := tn hA1 (by decide) v0_8
  have v1_93 := te hA1 s0 (by decide)
  refine AnyE.tk (i := 1) (.pointer (some ⟨q, 0, none⟩)) rfl (by kernel_rfl) (fun _ _ _ h => h) (by rfl) (fun wq hq => op_move v1_0) hS ?_
  refine anyE_gen (fun A2 hA2 => ?_)
  have s2 := tz hA2 s1
  have v2_8 := tn hA2 (by decide) v1_8
  have v2_93 := tn hA2 (by decide) v1_93
  have v2_94 := te hA2 s1 (by decide)
  refine AnyE.tk (i := 2) (.pointer (some ⟨q, 0, none⟩)) rfl (by kernel_rfl) (fun _ _ _ h => h) (by rfl) (fun wq hq => op_nil v2_94) hS ?_
  refine anyE_gen (fun A3 hA3 => ?_)
  have s3 := tz hA3 s2
  have v3_8 := tn hA3 (by decide) v2_8
  have v3_93 := tn hA3 (by decide) v2_93
  have v3_95 := te hA3 s2 (by decide)
  refine AnyE.tk (i := 3) (.pointer (some ⟨q, 12, none⟩)) rfl (by kernel_rfl) (fun _ _ _ h => h) (by rfl) (fun wq hq => op_fieldD v3_95) hS ?_
  refine anyE_gen (fun A4 hA4 => ?_)
  have s4 := tz hA4 s3
  have v4_8 := tn hA4 (by decide) v3_8
  have v4_93 := tn hA4 (by decide) v3_93
  have v4_96 := te hA4 s3 (by decide)
  refine AnyE.tk (i := 4) (.pointer (some ⟨q, 12 + 2, none⟩)) rfl (by kernel_rfl) (fun _ _ _ h => h) (by rfl) (fun wq hq => op_fieldK2 v4_96) hS ?_
  refine anyE_gen (fun A5 hA5 => ?_)
  have s5 := tz hA5 s4
  have v5_8 := tn hA5 (by decide) v4_8
  have v5_93 := tn hA5 (by decide) v4_93
  have v5_97 := te hA5 s4 (by decide)
  refine AnyE.tk (i := 5) (.int .i64 p0.x) rfl (by kernel_rfl) (fun _ _ _ h => h) (by rfl) (fun wq hq => op_loadI v5_97 hq.1) hS ?_
  refine anyE_gen (fun A6 hA6 => ?_)
  have s6 := tz hA6 s5
  have v6_8 := tn hA6 (by decide) v5_8
  have v6_93 := tn hA6 (by decide) v5_93
  have v6_98 := te hA6 s5 (by decide)
  refine AnyE.tk (i := 6) (.pointer (some ⟨db, 0 + 2, none⟩)) rfl (by kernel_rfl) (fun _ _ _ h => h) (by rfl) (fun wq hq => op_fieldK2 v6_8) hS ?_
  refine anyE_gen (fun A7 hA7 => ?_)
  have s7 := tz hA7 s6
  have v7_93 := tn hA7 (by decide) v6_93
  have v7_98 := tn hA7 (by decide) v6_98
  have v7_99 := te hA7 s6 (by decide)
  refine AnyE.tk (i := 7) (.int .i64 c1.x) rfl (by kernel_rfl) (fun _ _ _ h => h) (by rfl) (fun wq hq => op_loadI v7_99 (by simpa using hq.2)) hS ?_
  refine anyE_gen (fun A8 hA8 => ?_)
  have s8 := tz hA8 s7
  have v8_93 := tn hA8 (by decide) v7_93
  have v8_98 := tn hA8 (by decide) v7_98
  have v8_100 := te hA8 s7 (by decide)
  refine AnyE.tk (i := 8) (.int .i64 (p0.x + c1.x)) rfl (by kernel_rfl) (fun _ _ _ h => h) (by rfl) (fun wq hq => op_addI v8_98 v8_100 HW2.out) hS ?_
  refine anyE_gen (fun A9 hA9 => ?_)
  have s9 := tz hA9 s8
  have v9_93 := tn hA9 (by decide) v8_93
  have v9_101 := te hA9 s8 (by decide)
  refine AnyE.one (i := 9) rfl (by kernel_rfl) (by rfl) (fun K9 hK9 => ?_)
  refine wp_nil0 v9_93 ?_
  refine hK9.out _ _ ⟨fun _ => hS, ?_⟩
  clear hK9
  refine anyE_gen (fun A10 hA10 => ?_)
  have s10 := tz hA10 s9
  have v10_101 := tn hA10 (by decide) v9_101
  have v10_102 := te hA10 s9 (by decide)
  refine AnyE.one (i := 10) rfl (by kernel_rfl) (by rfl) (fun K10 hK10 => ?_)
  refine wp_fieldD v10_102 ?_
  refine hK10.out _ _ ⟨fun _ => hS, ?_⟩
  clear hK10
  refine anyE_gen (fun A11 hA11 => ?_)
  have s11 := tz hA11 s10
  have v11_101 := tn hA11 (by decide) v10_101
  have v11_103 := te hA11 s10 (by decide)
  refine AnyE.one (i := 11) rfl (by kernel_rfl) (by rfl) (fun K11 hK11 => ?_)
  refine wp_fieldK2 v11_103 ?_
  refine hK11.out _ _ ⟨fun _ => hS, ?_⟩
  clear hK11
  refine anyE_gen (fun A12 hA12 => ?_)
  have s12 := tz hA12 s11
  have v12_101 := tn hA12 (by decide) v11_101
  have v12_104 := te hA12 s11 (by decide)
  refine AnyE.one (i := 12) rfl (by kernel_rfl) (by rfl) (fun K12 hK12 => ?_)
  refine wp_storeI hS.1 ((HY2.out _ D0).1.box.fz 14) v12_104 v12_101 ?_
  refine hK12.out _ _ ⟨fun h => (by cases h), ?_⟩
  clear hK12
  refine AnyE.done (by kernel_rfl) (NoPanic.normal ?_) _
  clear s0 v0_0 v0_8 s1 v1_0 v1_8 v1_93 s2 v2_8 v2_93 v2_94 s3 v3_8 v3_93 v3_95 s4 v4_8 v4_93 v4_96 s5 v5_8 v5_93 v5_97 s6 v6_8 v6_93 v6_98 s7 v7_93 v7_98 v7_99 s8 v8_93 v8_98 v8_100 s9 v9_93 v9_101 s10 v10_101 v10_102 s11 v11_101 v11_103 s12 v12_101 v12_104
  subst hA12 hA11 hA10 hA9 hA8 hA7 hA6 hA5 hA4 hA3 hA2 hA1 hA0
  have hf2 := (HY2.out _ D0).1
  have hn2 := hf2.boxed H (ct' := (⟨p0.o + c1.o, p0.m + c1.m, p0.x + c1.x, p0.a, p0.k⟩ : Ct)) (hf2.box.set_x (p0.x + c1.x)) (grown1 Y2.drew q 14 (.int .i64 (p0.x + c1.x)))
  have hc2 : CtBx (Y2.drew.setCell ⟨q, 14, none⟩ (.int .i64 (p0.x + c1.x))) db c1 := ((HY2.out _ D0).2).keep (Below.heap_setCell _ _ _ _ HdbQ.out.1)
  have hsp2 : SpF X5 (Y2.drew.setCell ⟨q, 14, none⟩ (.int .i64 (p0.x + c1.x))) (fun i => i = q) := (SpF.below HSpY2.out D0).grown (grown1 Y2.drew q 14 (.int .i64 (p0.x + c1.x))) (fun k hk => (Option.some.inj hk).symm)
  obtain ⟨Y3, hY3⟩ : ∃ Y, Y = Y2.drew.setCell ⟨q, 14, none⟩ (.int .i64 (p0.x + c1.x)) := ⟨_, rfl⟩
  rw [← hY3] at hn2 hc2 hsp2
  rw [← hY3]
  have HY3 : Hid (∀ Z, Below Y3.heap.size Y3 Z → (Fm B wb g rb q fv fs clock T (some ⟨rb, 0, none⟩) none Z ins (outs ++ zs) la s.begun (⟨p0.o + c1.o, p0.m + c1.m, p0.x + c1.x, p0.a, p0.k⟩ : Ct) (.slice ai ni ci) (.slice a2 n2 c2) spZ (OO (V0 ++ us) ++ xs.map EntD.dat) (V0 ++ us ++ (resolveS (mt fs) clock s.dat 3).1) Oi Oo2) ∧ CtBx Z db c1) := fun Z b => ⟨hn2.later H b, hc2.later b⟩
  have HSpY3 := Lib.hid hsp2
  clear hY3 hf2 hn2 hc2 hsp2 D0 hS HS2
  go_simp
  go_upto_region 13 with fail
  have D0 : Below Y3.heap.size Y3 Y3.drew := (Below.refl _ _).drew
  have HS3 : Hid (∀ Z, Below Y3.heap.size Y3 Z → Z.cell? ⟨q, 15, none⟩ = some (.int .i64 p0.a) ∧ Z.cell? ⟨db, 3, none⟩ = some (.int .i64 c1.a)) := fun Z b => ⟨(HY3.out Z b).1.box.c15, (HY3.out Z b).2.c3⟩
  have hS := HS3.out _ D0
  refine wp_region_noPanic ?_
  refine wp_region_anyE (S := fun Z => Z.cell? ⟨q, 15, none⟩ = some (.int .i64 p0.a) ∧ Z.cell? ⟨db, 3, none⟩ = some (.int .i64 c1.a)) (E := fun j => decide (j < 12)) (by kernel_rfl) ?_
  refine anyE_gen (fun A0 hA0 => ?_)
  have s0 : A0.tmps.size = 156 := by rw [hA0]; rfl
  have v0_0 : Tv A0 0 (.pointer (some ⟨q, 0, none⟩)) := by rw [hA0]; rfl
  have v0_8 : Tv A0 8 (.pointer (some ⟨db, 0, none⟩)) := by rw [hA0]; rfl
  refine AnyE.tk (i := 0) (.pointer (some ⟨q, 0, none⟩)) rfl (by kernel_rfl) (fun _ _ _ h => h) (by rfl) (fun wq hq => op_move v0_0) hS ?_
  refine anyE_gen (fun A1 hA1 => ?_)
  have s1 := tz hA1 s0
  have v1_0 := tn hA1 (by decide) v0_0
  have v1_8 := tn hA1 (by decide) v0_8
  have v1_105 := te hA1 s0 (by decide)
  refine AnyE.tk (i := 1) (.pointer (some ⟨q, 0, none⟩)) rfl (by kernel_rfl) (fun _ _ _ h => h) (by rfl) (fun wq hq => op_move v1_0) hS ?_
  refine anyE_gen (fun A2 hA2 => ?_)
  have s2 := tz hA2 s1
  have v2_8 := tn hA2 (by decide) v1_8
  have v2_105 := tn hA2 (by decide) v1_105
  have v2_106 := te hA2 s1 (by decide)
  refine AnyE.tk (i := 2) (.pointer (some ⟨q, 0, none⟩)) rfl (by kernel_rfl) (fun _ _ _ h => h) (by rfl) (fun wq hq => op_nil v2_106) hS ?_
  refine anyE_gen (fun A3 hA3 => ?_)
  have s3 := tz hA3 s2
  have v3_8 := tn hA3 (by decide) v2_8
  have v3_105 := tn hA3 (by decide) v2_105
  have v3_107 := te hA3 s2 (by decide)
  refine AnyE.tk (i := 3) (.pointer (some ⟨q, 12, none⟩)) rfl (by kernel_rfl) (fun _ _ _ h => h) (by rfl) (fun wq hq => op_fieldD v3_107) hS ?_
  refine anyE_gen (fun A4 hA4 => ?_)
  have s4 := tz hA4 s3
  have v4_8 := tn hA4 (by decide) v3_8
  have v4_105 := tn hA4 (by decide) v3_105
  have v4_108 := te hA4 s3 (by decide)
  refine AnyE.tk (i := 4) (.pointer (some ⟨q, 12 + 3, none⟩)) rfl (by kernel_rfl) (fun _ _ _ h => h) (by rfl) (fun wq hq => op_fieldK3 v4_108) hS ?_
  refine anyE_gen (fun A5 hA5 => ?_)
  have s5 := tz hA5 s4
  have v5_8 := tn hA5 (by decide) v4_8
  have v5_105 := tn hA5 (by decide) v4_105
  have v5_109 := te hA5 s4 (by decide)
  refine AnyE.tk (i := 5) (.int .i64 p0.a) rfl (by kernel_rfl) (fun _ _ _ h => h) (by rfl) (fun wq hq => op_loadI v5_109 hq.1) hS ?_
  refine anyE_gen (fun A6 hA6 => ?_)
  have s6 := tz hA6 s5
  have v6_8 := tn hA6 (by decide) v5_8
  have v6_105 := tn hA6 (by decide) v5_105
  have v6_110 := te hA6 s5 (by decide)
  refine AnyE.tk (i := 6) (.pointer (some ⟨db, 0 + 3, none⟩)) rfl (by kernel_rfl) (fun _ _ _ h => h) (by rfl) (fun wq hq => op_fieldK3 v6_8) hS ?_
  refine anyE_gen (fun A7 hA7 => ?_)
  have s7 := tz hA7 s6
  have v7_105 := tn hA7 (by decide) v6_105
  have v7_110 := tn hA7 (by decide) v6_110
  have v7_111 := te hA7 s6 (by decide)
  refine AnyE.tk (i := 7) (.int .i64 c1.a) rfl (by kernel_rfl) (fun _ _ _ h => h) (by rfl) (fun wq hq => op_loadI v7_111 (by simpa using hq.2)) hS ?_
  refine anyE_gen (fun A8 hA8 => ?_)
  have s8 := tz hA8 s7
  have v8_105 := tn hA8 (by decide) v7_105
  have v8_110 := tn hA8 (by decide) v7_110
  have v8_112 := te hA8 s7 (by decide)
  refine AnyE.tk (i := 8) (.int .i64 (p0.a + c1.a)) rfl (by kernel_rfl) (fun _ _ _ h => h) (by rfl) (fun wq hq => op_addI v8_110 v8_112 HW3.out) hS ?_
  refine anyE_gen (fun A9 hA9 => ?_)
  have s9 := tz hA9 s8
  have v9_105 := tn hA9 (by decide) v8_105
  have v9_113 := te hA9 s8 (by decide)
  refine AnyE.one (i := 9) rfl (by kernel_rfl) (by rfl) (fun K9 hK9 => ?_)
  refine wp_nil0 v9_105 ?_
  refine hK9.out _ _ ⟨fun _ => hS, ?_⟩
  clear hK9
  refine anyE_gen (fun A10 hA10 => ?_)
  have s10 := tz hA10 s9
  have v10_113 := tn hA10 (by decide) v9_113
  have v10_114 := te hA10 s9 (by decide)
  refine AnyE.one (i := 10) rfl (by kernel_rfl) (by rfl) (fun K10 hK10 => ?_)
  refine wp_fieldD v10_114 ?_
  refine hK10.out _ _ ⟨fun _ => hS, ?_⟩
  clear hK10
  refine anyE_gen (fun A11 hA11 => ?_)
  have s11 := tz hA11 s10
  have v11_113 := tn hA11 (by decide) v10_113
  have v11_115 := te hA11 s10 (by decide)
  refine AnyE.one (i := 11) rfl (by kernel_rfl) (by rfl) (fun K11 hK11 => ?_)
  refine wp_fieldK3 v11_115 ?_
  refine hK11.out _ _ ⟨fun _ => hS, ?_⟩
  clear hK11
  refine anyE_gen (fun A12 hA12 => ?_)
  have s12 := tz hA12 s11
  have v12_113 := tn hA12 (by decide) v11_113
  have v12_116 := te hA12 s11 (by decide)
  refine AnyE.one (i := 12) rfl (by kernel_rfl) (by rfl) (fun K12 hK12 => ?_)
  refine wp_storeI hS.1 ((HY3.out _ D0).1.box.fz 15) v12_116 v12_113 ?_
  refine hK12.out _ _ ⟨fun h => (by cases h), ?_⟩
  clear hK12
  refine AnyE.done (by kernel_rfl) (NoPanic.normal ?_) _
  clear s0 v0_0 v0_8 s1 v1_0 v1_8 v1_105 s2 v2_8 v2_105 v2_106 s3 v3_8 v3_105 v3_107 s4 v4_8 v4_105 v4_108 s5 v5_8 v5_105 v5_109 s6 v6_8 v6_105 v6_110 s7 v7_105 v7_110 v7_111 s8 v8_105 v8_110 v8_112 s9 v9_105 v9_113 s10 v10_113 v10_114 s11 v11_113 v11_115 s12 v12_113 v12_116
  subst hA12 hA11 hA10 hA9 hA8 hA7 hA6 hA5 hA4 hA3 hA2 hA1 hA0
  have hf3 := (HY3.out _ D0).1
  have hn3 := hf3.boxed H (ct' := (⟨p0.o + c1.o, p0.m + c1.m, p0.x + c1.x, p0.a + c1.a, p0.k⟩ : Ct)) (hf3.box.set_a (p0.a + c1.a)) (grown1 Y3.drew q 15 (.int .i64 (p0.a + c1.a)))
  have hc3 : CtBx (Y3.drew.setCell ⟨q, 15, none⟩ (.int .i64 (p0.a + c1.a))) db c1 := ((HY3.out _ D0).2).keep (Below.heap_setCell _ _ _ _ HdbQ.out.1)
  have hsp3 : SpF X5 (Y3.drew.setCell ⟨q, 15, none⟩ (.int .i64 (p0.a + c1.a))) (fun i => i = q) := (SpF.below HSpY3.out D0).grown (grown1 Y3.drew q 15 (.int .i64 (p0.a + c1.a))) (fun k hk => (Option.some.inj hk).symm)
  obtain ⟨Y4, hY4⟩ : ∃ Y, Y = Y3.drew.setCell ⟨q, 15, none⟩ (.int .i64 (p0.a + c1.a)) := ⟨_, rfl⟩
  rw [← hY4] at hn3 hc3 hsp3
  rw [← hY4]
  have HY4 : Hid (∀ Z, Below Y4.heap.size Y4 Z → (Fm B wb g rb q fv fs clock T (some ⟨rb, 0, none⟩) none Z ins (outs ++ zs) la s.begun (⟨p0.o + c1.o, p0.m + c1.m, p0.x + c1.x, p0.a + c1.a, p0.k⟩ : Ct) (.slice ai ni ci) (.slice a2 n2 c2) spZ (OO (V0 ++ us) ++ xs.map EntD.dat) (V0 ++ us ++ (resolveS (mt fs) clock s.dat 3).1) Oi Oo2) ∧ CtBx Z db c1) := fun Z b => ⟨hn3.later H b, hc3.later b⟩
  have HSpY4 := Lib.hid hsp3
  clear hY4 hf3 hn3 hc3 hsp3 D0 hS HS3
  go_simp
  go_upto_region 14 with fail
  have D0 : Below Y4.heap.size Y4 Y4.drew := (Below.refl _ _).drew
  have HS4 : Hid (∀ Z, Below Y4.heap.size Y4 Z → Z.cell? ⟨q, 16, none⟩ = some (.int .i64 p0.k) ∧ Z.cell? ⟨db, 4, none⟩ = some (.int .i64 c1.k)) := fun Z b => ⟨(HY4.out Z b).1.box.c16, (HY4.out Z b).2.c4⟩
  have hS := HS4.out _ D0
  refine wp_region_noPanic ?_
  refine wp_region_anyE (S := fun Z => Z.cell? ⟨q, 16, none⟩ = some (.int .i64 p0.k) ∧ Z.cell? ⟨db, 4, none⟩ = some (.int .i64 c1.k)) (E := fun j => decide (j < 12)) (by kernel_rfl) ?_
  refine anyE_gen (fun A0 hA0 => ?_)
  have s0 : A0.tmps.size = 156 := by rw [hA0]; rfl
  have v0_0 : Tv A0 0 (.pointer (some ⟨q, 0, none⟩)) := by rw [hA0]; rfl
  have v0_8 : Tv A0 8 (.pointer (some ⟨db, 0, none⟩)) := by rw [hA0]; rfl
  refine AnyE.tk (i := 0) (.pointer (some ⟨q, 0, none⟩)) rfl (by kernel_rfl) (fun _ _ _ h => h) (by rfl) (fun wq hq => op_move v0_0) hS ?_
  refine anyE_gen (fun A1 hA1 => ?_)
  have s1 := tz hA1 s0
  have v1_0 := tn hA1 (by decide) v0_0
  have v1_8 := tn hA1 (by decide) v0_8
  have v1_117 := te hA1 s0 (by decide)
  refine AnyE.tk (i := 1) (.pointer (some ⟨q, 0, none⟩)) rfl (by kernel_rfl) (fun _ _ _ h => h) (by rfl) (fun wq hq => op_move v1_0) hS ?_
  refine anyE_gen (fun A2 hA2 => ?_)
  have s2 := tz hA2 s1
  have v2_8 := tn hA2 (by decide) v1_8
  have v2_117 := tn hA2 (by decide) v1_117
  have v2_118 := te hA2 s1 (by decide)
  refine AnyE.tk (i := 2) (.pointer (some ⟨q, 0, none⟩)) rfl (by kernel_rfl) (fun _ _ _ h => h) (by rfl) (fun wq hq => op_nil v2_118) hS ?_
  refine anyE_gen (fun A3 hA3 => ?_)
  have s3 := tz hA3 s2
  have v3_8 := tn hA3 (by decide) v2_8
  have v3_117 := tn hA3 (by decide) v2_117
  have v3_119 := te hA3 s2 (by decide)
  refine AnyE.tk (i := 3) (.pointer (some ⟨q, 12, none⟩)) rfl (by kernel_rfl) (fun _ _ _ h => h) (by rfl) (fun wq hq => op_fieldD v3_119) hS ?_
  refine anyE_gen (fun A4 hA4 => ?_)
  have s4 := tz hA4 s3
  have v4_8 := tn hA4 (by decide) v3_8
  have v4_117 := tn hA4 (by decide) v3_117
  have v4_120 := te hA4 s3 (by decide)
  refine AnyE.tk (i := 4) (.pointer (some ⟨q, 12 + 4, none⟩)) rfl (by kernel_rfl) (fun _ _ _ h => h) (by rfl) (fun wq hq => op_fieldK4 v4_120) hS ?_
  refine anyE_gen (fun A5 hA5 => ?_)
  have s5 := tz hA5 s4
  have v5_8 := tn hA5 (by decide) v4_8
  have v5_117 := tn hA5 (by decide) v4_117
  have v5_121 := te hA5 s4 (by decide)
  refine AnyE.tk (i := 5) (.int .i64 p0.k) rfl (by kernel_rfl) (fun _ _ _ h => h) (by rfl) (fun wq hq => op_loadI v5_121 hq.1) hS ?_
  refine anyE_gen (fun A6 hA6 => ?_)
  have s6 := tz hA6 s5
  have v6_8 := tn hA6 (by decide) v5_8
  have v6_117 := tn hA6 (by decide) v5_117
  have v6_122 := te hA6 s5 (by decide)
  refine AnyE.tk (i := 6) (.pointer (some ⟨db, 0 + 4, none⟩)) rfl (by kernel_rfl) (fun _ _ _ h => h) (by rfl) (fun wq hq => op_fieldK4 v6_8) hS ?_
  refine anyE_gen (fun A7 hA7 => ?_)
  have s7 := tz hA7 s6
  have v7_117 := tn hA7 (by decide) v6_117
  have v7_122 := tn hA7 (by decide) v6_122
  have v7_123 := te hA7 s6 (by decide)
  refine AnyE.tk (i := 7) (.int .i64 c1.k) rfl (by kernel_rfl) (fun _ _ _ h => h) (by rfl) (fun wq hq => op_loadI v7_123 (by simpa using hq.2)) hS ?_
  refine anyE_gen (fun A8 hA8 => ?_)
  have s8 := tz hA8 s7
  have v8_117 := tn hA8 (by decide) v7_117
  have v8_122 := tn hA8 (by decide) v7_122
  have v8_124 := te hA8 s7 (by decide)
  refine AnyE.tk (i := 8) (.int .i64 (p0.k + c1.k)) rfl (by kernel_rfl) (fun _ _ _ h => h) (by rfl) (fun wq hq => op_addI v8_122 v8_124 HW4.out) hS ?_
  refine anyE_gen (fun A9 hA9 => ?_)
  have s9 := tz hA9 s8
  have v9_117 := tn hA9 (by decide) v8_117
  have v9_125 := te hA9 s8 (by decide)
  refine AnyE.one (i := 9) rfl (by kernel_rfl) (by rfl) (fun K9 hK9 => ?_)
  refine wp_nil0 v9_117 ?_
  refine hK9.out _ _ ⟨fun _ => hS, ?_⟩
  clear hK9
  refine anyE_gen (fun A10 hA10 => ?_)
  have s10 := tz hA10 s9
  have v10_125 := tn hA10 (by decide) v9_125
  have v10_126 := te hA10 s9 (by decide)
  refine AnyE.one (i := 10) rfl (by kernel_rfl) (by rfl) (fun K10 hK10 => ?_)
  refine wp_fieldD v10_126 ?_
  refine hK10.out _ _ ⟨fun _ => hS, ?_⟩
  clear hK10
  refine anyE_gen (fun A11 hA11 => ?_)
  have s11 := tz hA11 s10
  have v11_125 := tn hA11 (by decide) v10_125
  have v11_127 := te hA11 s10 (by decide)
  refine AnyE.one (i := 11) rfl (by kernel_rfl) (by rfl) (fun K11 hK11 => ?_)
  refine wp_fieldK4 v11_127 ?_
  refine hK11.out _ _ ⟨fun _ => hS, ?_⟩
  clear hK11
  refine anyE_gen (fun A12 hA12 => ?_)
  have s12 := tz hA12 s11
  have v12_125 := tn hA12 (by decide) v11_125
  have v12_128 := te hA12 s11 (by decide)
  refine AnyE.one (i := 12) rfl (by kernel_rfl) (by rfl) (fun K12 hK12 => ?_)
  refine wp_storeI hS.1 ((HY4.out _ D0).1.box.fz 16) v12_128 v12_125 ?_
  refine hK12.out _ _ ⟨fun h => (by cases h), ?_⟩
  clear hK12
  refine AnyE.done (by kernel_rfl) (NoPanic.normal ?_) _
  clear s0 v0_0 v0_8 s1 v1_0 v1_8 v1_117 s2 v2_8 v2_117 v2_118 s3 v3_8 v3_117 v3_119 s4 v4_8 v4_117 v4_120 s5 v5_8 v5_117 v5_121 s6 v6_8 v6_117 v6_122 s7 v7_117 v7_122 v7_123 s8 v8_117 v8_122 v8_124 s9 v9_117 v9_125 s10 v10_125 v10_126 s11 v11_125 v11_127 s12 v12_125 v12_128
  subst hA12 hA11 hA10 hA9 hA8 hA7 hA6 hA5 hA4 hA3 hA2 hA1 hA0
  have hf4 := (HY4.out _ D0).1
  have hn4 := hf4.boxed H (ct' := (⟨p0.o + c1.o, p0.m + c1.m, p0.x + c1.x, p0.a + c1.a, p0.k + c1.k⟩ : Ct)) (hf4.box.set_k (p0.k + c1.k)) (grown1 Y4.drew q 16 (.int .i64 (p0.k + c1.k)))
  have hc4 : CtBx (Y4.drew.setCell ⟨q, 16, none⟩ (.int .i64 (p0.k + c1.k))) db c1 := ((HY4.out _ D0).2).keep (Below.heap_setCell _ _ _ _ HdbQ.out.1)
  have hsp4 : SpF X5 (Y4.drew.setCell ⟨q, 16, none⟩ (.int .i64 (p0.k + c1.k))) (fun i => i = q) := (SpF.below HSpY4.out D0).grown (grown1 Y4.drew q 16 (.int .i64 (p0.k + c1.k))) (fun k hk => (Option.some.inj hk).symm)
  obtain ⟨Y5, hY5⟩ : ∃ Y, Y = Y4.drew.setCell ⟨q, 16, none⟩ (.int .i64 (p0.k + c1.k)) := ⟨_, rfl⟩
  rw [← hY5] at hn4 hc4 hsp4
  rw [← hY5]
  have HY5 : Hid (∀ Z, Below Y5.heap.size Y5 Z → (Fm B wb g rb q fv fs clock T (some ⟨rb, 0, none⟩) none Z ins (outs ++ zs) la s.begun (⟨p0.o + c1.o, p0.m + c1.m, p0.x + c1.x, p0.a + c1.a, p0.k + c1.k⟩ : Ct) (.slice ai ni ci) (.slice a2 n2 c2) spZ (OO (V0 ++ us) ++ xs.map EntD.dat) (V0 ++ us ++ (resolveS (mt fs) clock s.dat 3).1) Oi Oo2) ∧ CtBx Z db c1) := fun Z b => ⟨hn4.later H b, hc4.later b⟩
  have HSpY5 := Lib.hid hsp4
  clear hY5 hf4 hn4 hc4 hsp4 D0 hS HS4
  go_simp
  obtain ⟨qo, hqo⟩ : ∃ z, z = p0.o + c1.o := ⟨_, rfl⟩
  obtain ⟨qm, hqm⟩ : ∃ z, z = p0.m + c1.m := ⟨_, rfl⟩
  obtain ⟨qx, hqx⟩ : ∃ z, z = p0.x + c1.x := ⟨_, rfl⟩
  obtain ⟨qa, hqa⟩ : ∃ z, z = p0.a + c1.a := ⟨_, rfl⟩
  obtain ⟨qk, hqk⟩ : ∃ z, z = p0.k + c1.k := ⟨_, rfl⟩
  rw [← hqo, ← hqm, ← hqx, ← hqa, ← hqk] at HSum HY5
  have D5 : Below Y5.heap.size Y5 Y5.drew := (Below.refl _ _).drew
  have HC15 : Hid (Calls Tryz.prog 100 #[.pointer (some ⟨rb, 0, none⟩)] Y5.drew fun r W' => r = .returned (.agg #[.int .i64 qo, .int .i64 qm, .int .i64 qx, .int .i64 qa, .int .i64 qk]) ∧ Below Y5.drew.heap.size Y5.drew W') := by
    obtain ⟨ov, hov⟩ := (HDr.out _ _ _ (HY5.out _ D5).1.rest.wk.tell).1
    have := dropped_any hov
    rw [HSum.out] at this
    exact this
  have HKD : Hid (∀ Z, Below Y5.heap.size Y5 Z → Z.cell? ⟨q, 0, none⟩ = some (.pointer (some ⟨rb, 0, none⟩)) ∧ Z.cell? ⟨q, 12, none⟩ = some (.int .i64 qo) ∧ Z.cell? ⟨q, 13, none⟩ = some (.int .i64 qm) ∧ Z.cell? ⟨q, 14, none⟩ = some (.int .i64 qx) ∧ Z.cell? ⟨q, 15, none⟩ = some (.int .i64 qa) ∧ Z.cell? ⟨q, 16, none⟩ = some (.int .i64 qk)) := fun Z b => by
    have bx := (HY5.out Z b).1.box
    exact ⟨bx.c0, bx.c12, bx.c13, bx.c14, bx.c15, bx.c16⟩
  have z1 := HKD.out _ D5
  clear hqo hqm hqx hqa hqk
  go_upto_region 15 with fail
  go_region_held3 (fun Z => Z.cell? ⟨q, 0, none⟩ = some (.pointer (some ⟨rb, 0, none⟩)) ∧ Z.cell? ⟨q, 12, none⟩ = some (.int .i64 qo) ∧ Z.cell? ⟨q, 13, none⟩ = some (.int .i64 qm) ∧ Z.cell? ⟨q, 14, none⟩ = some (.int .i64 qx) ∧ Z.cell? ⟨q, 15, none⟩ = some (.int .i64 qa) ∧ Z.cell? ⟨q, 16, none⟩ = some (.int .i64 qk)) (first | exact z1 | exact z2) ((go_at_call 100; refine Calls.mono HC15.out ?_; rintro r X6 ⟨rfl, b6⟩; have z2 := HKD.out X6 (D5.trans (b6.mono D5.size))))
  have HB6 := Lib.hid (D5.trans (b6.mono D5.size))
  clear z1 z2 b6 D5 HC15
  have HF5 := Lib.hid (HY5.out X6 HB6.out).1
  have HSpE : Hid (SpF X5 X6 (fun i => i = q)) := SpF.below HSpY5.out HB6.out
  have c0 := HF5.out.box.c0
  have c2 := HF5.out.box.c2
  have c3 := HF5.out.box.c3
  have c4 := HF5.out.box.c4
  have c5 := HF5.out.box.c5
  have c6 := HF5.out.box.c6
  have c7 := HF5.out.box.c7
  have c8 := HF5.out.box.c8
  have c9 := HF5.out.box.c9
  have c10 := HF5.out.box.c10
  have c11 := HF5.out.box.c11
  have fz := HF5.out.box.fz
  go_wp2
  go_ret
  obtain ⟨Y, hY, bxY, grY⟩ := FlBx.lastZ HF5.out.box
  rw [← hY]
  have fr := (HF5.out.reset H bxY grY).cast (has' := spZ.begun) (hd' := OO ((V0 ++ us ++ (resolveS (mt fs) clock s.dat 3).1) ++ [])) (vs' := (V0 ++ us ++ (resolveS (mt fs) clock s.dat 3).1) ++ []) rfl (HT1.out.trans (congrArg OO (List.append_nil _).symm)) (List.append_nil _).symm
  have hct : (⟨qo, qm, qx, qa, qk⟩ : Ct) = (cntS major low) (V0 ++ us ++ (resolveS (mt fs) clock s.dat 3).1) := HSum.out.symm
  rw [hct] at fr
  refine ⟨rfl, V0 ++ us ++ (resolveS (mt fs) clock s.dat 3).1, _, ⟨[], [], entZ, _, _, spZ, [], [], [], _, _, fr, HQ3.out, rfl⟩, ?_, fun i hi => ?_⟩
  · exact (SpF.then (SpF.below HSp3.out HB5.out) HSpE.out (fun i _ z => .inl z)).grown grY (fun k hk => .inl (Option.some.inj hk).symm)
  · rcases hi with z | z | z | z | z
    · exact .inl (.inl z)
    · rcases HSt.out.its i z with y | y
      · exact .inl (.inr (.inl y))
      · exact .inr (by have := HXs.out; have := HcN.out; omega)
    · exact z.elim
    · exact z.elim
    · rcases z with z | z | z <;> cases z

end Go.Proofs.YthhkpkfpifllkaaGreat
