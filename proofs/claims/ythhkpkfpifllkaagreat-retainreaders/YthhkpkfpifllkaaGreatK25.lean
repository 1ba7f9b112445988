import Derived.Test.YthhkpkfpifllkaaGreatK24
import Derived.Deep.CutBlock
namespace Go.Proofs.YthhkpkfpifllkaaGreat
open Go.RowKit
set_option linter.unusedVariables false

theorem end_box (w : World) (fa : Option Addr) (K fc : Nat) (clock low t nv : Int) (major : Bool) : ∃ X, X = w.alloc (.cells #[.slice fa K fc, .int .i64 clock, .bool major, .int .i64 low, .int .i64 t, .int .i64 nv] 62) ∧ Below w.heap.size w X ∧ X.heap.size = w.heap.size + 1 ∧ CBx X w.heap.size fa K fc clock major low t nv :=
  ⟨_, rfl, (Below.refl _ w).alloc (Nat.le_refl _) _, by rw [World.size_alloc], heap_new w _⟩
theorem FlBx.lastZ {w : World} {q : Nat} {pf pr : Option Addr} {vi vo : Value} {la : EntD} {has : Bool} {ct : Ct} (h : FlBx w q pf pr vi vo la has ct) : ∃ Y, Y = (((((((((w.setCell ⟨q, 2, none⟩ (.slice none 0 0)).setCell ⟨q, 3, none⟩ (.slice none 0 0)).setCell ⟨q, 11, none⟩ (.bool false)).setCell ⟨q, 4, none⟩ (.slice none 0 0)).setCell ⟨q, 5, none⟩ (.int .i64 0)).setCell ⟨q, 6, none⟩ (.slice none 0 0)).setCell ⟨q, 7, none⟩ (.int .i64 0)).setCell ⟨q, 8, none⟩ (.int .i64 0)).setCell ⟨q, 9, none⟩ (.int .i64 0)).setCell ⟨q, 10, none⟩ (.slice none 0 0) ∧ FlBx Y q pf pr (.slice none 0 0) (.slice none 0 0) entZ false ct ∧ w.grownBy Y (some q) :=
  ⟨_, rfl, (((h.setIn (.slice none 0 0)).setOut (.slice none 0 0)).setHas false).setLast entZ, grownQ (grownQ (grownQ (grownQ (grownQ (grownQ (grownQ (grownQ (grownQ (grown1 _ _ _ _) (grown1 _ _ _ _)) (grown1 _ _ _ _)) (grown1 _ _ _ _)) (grown1 _ _ _ _)) (grown1 _ _ _ _)) (grown1 _ _ _ _)) (grown1 _ _ _ _)) (grown1 _ _ _ _)) (grown1 _ _ _ _)⟩
end Go.Proofs.YthhkpkfpifllkaaGreat

namespace Go.Proofs.YthhkpkfpifllkaaGreat
open Go.RowKit
set_option linter.unusedVariables false
set_option maxRecDepth 100000 in
set_option maxHeartbeats 16000000 in
theorem endR_any {B wb g rb q n fc : Nat} {fv : Value} {fa : Option Addr} {fs : List FamD} {clock low t nv : Int} {major : Bool} {T : List En → World → (Nat → Prop) → List Vd → Prop} {OO : List Vd → List En} {wa : List En → List En} {V0 : List Vd} {W : World} {P : Nat → Prop} (D : List Vd → Ct) (hD : ∀ a b, D a = D b)
    (H : Hands g rb B (.pointer (some ⟨wb, 0, none⟩)) T) (K : Kd (mt fs) clock fs.length OO wa) (hT : ∀ (hd : List En) (W : World) (vs : List Vd), T hd W (fun i => i = rb) vs → hd = OO vs)
    (hW : ∀ (w : World) (a : Option Addr) (cap : Nat) (ls : List EntD), w.cell? ⟨q, 0, none⟩ = some (.pointer none) → RdF w (.slice fa fs.length fc) fs → RdL3 w a cap ls → ls.length ≤ 1353245080300 → inOrderE (check3S fs.length) ls = 0 → Calls Tryz.prog 98 #[.pointer (some ⟨q, 0, none⟩), .agg #[.slice fa fs.length fc, .int .i64 clock, .bool major, .int .i64 low, .int .i64 t, .int .i64 nv], .slice a ls.length cap] w fun r w' => ∃ (v : Value) (zs : List EntD) (m : List En), r = .returned v ∧ IsOrd fs.length (ls.map EntD.dat) m ∧ Vw w w' zs v (wa m))
    (hfs : ∀ f ∈ fs, 0 ≤ f.tl ∧ f.tl ≤ 1099511627776) (h : Fl B wb g rb q fv fs clock T OO none (some ⟨rb, 0, none⟩) (D V0) V0 W n P) (hin : ∀ Z, SpF W Z P → RdF Z (.slice fa fs.length fc) fs) (hn : n ≤ 1353245080300) :
    Calls Tryz.prog 68 #[.pointer (some ⟨q, 0, none⟩), .agg #[.slice fa fs.length fc, .int .i64 clock, .bool major, .int .i64 low, .int .i64 t, .int .i64 nv]] W fun r W' => r = .returned (.bool true) ∧ ∃ V1, FlTo B wb g rb q fv fs clock T OO none (some ⟨rb, 0, none⟩) (D V1) V1 W W' n P := by
  obtain ⟨ins, outs, la, vi, vo, s, us, l, m, Oi, Oo, hF, d, rfl⟩ := h
  obtain ⟨X, hX, A, hXs, cb⟩ := end_box W fa fs.length fc clock low t nv major
  have FX := hF.later H A
  obtain ⟨ai, ci, evi, hain, rdi⟩ := FX.rin.rdl (fun x hx => (d.szi x hx).1)
  subst evi
  obtain ⟨ao, co, evo, -, -⟩ := FX.rout.rdl (fun x hx => (d.outSz K x hx).1)
  subst evo
  obtain ⟨L1, L2, L3, L4, L5⟩ := d.lens
  have hPl := hF.inlt H
  have HC1 := Lib.hid (rEnd_any H FX.rest (by omega) hfs L2 L3)
  obtain ⟨cN, hcN⟩ : ∃ k, k = W.heap.size := ⟨_, rfl⟩
  have hcN' := hcN.symm
  rw [← hcN] at cb hXs
  have HX := Lib.hid hX
  have HA := Lib.hid A
  have HXs := Lib.hid hXs
  have HFX := Lib.hid FX
  have HD := Lib.hid d
  have HIn := Lib.hid hin
  have HPl := Lib.hid hPl
  have HcN := Lib.hid hcN
  have Hcb := Lib.hid cb
  have HL : Hid ((V0 ++ us).length ≤ n ∧ ins.length ≤ n ∧ n ≤ 1353245080300) := ⟨L1, L5, hn⟩
  have HWa := Lib.hid hW
  have HT := Lib.hid hT
  have y0 := FX.box.c0
  have y1 := FX.box.c1
  clear hX A hXs cb FX rdi hain L1 L2 L3 L4 L5 hPl hcN hF d hin hn hfs
  clear hW hT
  go_enter Tryz.func68, Tryz.ntmps68
  go_upto_region 1 with fail
  rw [← HX.out]
  (try rw [hcN'])
  go_wp2_with fail
  refine Calls.mono HC1.out ?_
  rintro r X1 ⟨xs, al, cl, Or, rfl, st⟩
  have HSt := Lib.hid st
  clear HX HC1 st y0 y1
  have HF1 := Lib.hid (HFX.out.step H HSt.out)
  have HT1 : Hid (OO (V0 ++ us) ++ xs.map EntD.dat = OO (V0 ++ us ++ (resolveS (mt fs) clock s.dat 3).1)) := HT.out _ _ _ HF1.out.rest.wk.tell
  obtain ⟨Q1, Q2, Q3, Q4⟩ := HD.out.ended K HT1.out
  have HQ1 := Lib.hid Q1
  have HQ2 := Lib.hid Q2
  have HQ3 := Lib.hid Q3
  have HQ4 := Lib.hid Q4
  clear Q1 Q2 Q3 Q4
  obtain ⟨no, hno⟩ : ∃ k, k = outs.length := ⟨_, rfl⟩
  obtain ⟨ni, hni⟩ : ∃ k, k = ins.length := ⟨_, rfl⟩
  obtain ⟨nl, hnl⟩ : ∃ k, k = xs.length := ⟨_, rfl⟩
  have Hni := Lib.hid hni
  have Hnl := Lib.hid hnl
  have HFY : Hid (∀ Z, Below X1.heap.size X1 Z → Fm B wb g rb q fv fs clock T none (some ⟨rb, 0, none⟩) Z ins outs la s.begun (D V0) (.slice ai ni ci) (.slice ao no co) spZ (OO (V0 ++ us) ++ xs.map EntD.dat) (V0 ++ us ++ (resolveS (mt fs) clock s.dat 3).1) Oi Oo) := fun Z b => by rw [hni, hno]; exact HF1.out.later H b
  have HLw : Hid (Rw X1 B (.slice al nl cl) xs Or) := by unfold Hid; rw [hnl]; exact HSt.out.rw_
  have HNo : Hid (∀ i, FlP q wb rb fv s la Oi Oo i → i < cN) := fun i hi => by have := (HPl.out i hi).2; have := HcN.out; omega
  have HP1 : Hid (∀ i, FlP q wb rb fv spZ la Oi Oo i → FlP q wb rb fv s la Oi Oo i ∨ X.heap.size ≤ i) := fun i hi => hi.step HSt.out.its
  have HOr : Hid (∀ i, Or i → i < X1.heap.size ∧ ¬ FlP q wb rb fv spZ la Oi Oo i) := fun i hi => ⟨(HSt.out.new i hi).2, fun z => by
    have hge := (HSt.out.new i hi).1
    have hxs := HXs.out
    rcases z with z | z | z | z | z
    · have := HNo.out i (.inl z); omega
    · exact HSt.out.ap i hi z
    · have := HNo.out i (.inr (.inr (.inl z))); omega
    · have := HNo.out i (.inr (.inr (.inr (.inl z)))); omega
    · have := HNo.out i (.inr (.inr (.inr (.inr z)))); omega⟩
  have HSp1 : Hid (SpF W X1 (FlP q wb rb fv s la Oi Oo)) := by
    have k : SpF X X1 (Its wb rb fv s) := ⟨HSt.out.os, HSt.out.tape, HSt.out.output, HSt.out.size, HSt.out.block⟩
    exact SpF.then (SpF.of_below _ HA.out) k (fun i _ z => .inr (.inl z))
  have Hcb1 : Hid (CBx X1 cN fa fs.length fc clock major low t nv) := (HSt.out.block cN (by have := HXs.out; omega) (fun z => by have := HNo.out cN (.inr (.inl z)); omega)).trans Hcb.out
  have HYO : Hid (∀ Z, Below X1.heap.size X1 Z → Z.cell? ⟨q, 3, none⟩ = some (.slice ao no co)) := fun Z b => (HFY.out Z b).box.c3
  have HCl : Hid (∀ Z, Below X1.heap.size X1 Z → Calls Tryz.prog 14 #[.slice al nl cl] Z fun r W' => ∃ v zs, r = .returned v ∧ Cl Z W' zs v ∧ zs.map EntD.dat = xs.map EntD.dat) := fun Z b => by
    obtain ⟨a, c, e1, -, r⟩ := (HLw.out.keep (fun i hi => b.block i (HOr.out i hi).1)).rdl (fun x hx => (HQ1.out x hx).1)
    rw [Hnl.out] at e1 ⊢
    cases e1
    refine cloneAll_any r (fun x hx => ?_) (by have := HQ4.out; have := HL.out; omega)
    have := HQ1.out x hx
    exact ⟨Nat.le_trans this.2.1 (by decide), Nat.le_trans this.2.2.1 (by decide), Nat.le_trans this.2.2.2 (by decide)⟩
  have HLen : Hid (∀ zs : List EntD, zs.map EntD.dat = xs.map EntD.dat → outs.length + zs.length ≤ 1353245080300) := fun zs hz => by
    have h1 : zs.length = xs.length := by have := congrArg List.length hz; simpa using this
    have := HQ4.out; have := HL.out
    omega
  have HB0 : Hid (B ≤ X1.heap.size) := Nat.le_trans (HPl.out q (.inl rfl)).1 (Nat.le_of_lt (Nat.lt_of_lt_of_le (HPl.out q (.inl rfl)).2 HSp1.out.size))
  rw [← hnl]
  clear hno hni hnl
  go_upto_region 5 with fail
  have D0 : Below X1.heap.size X1 X1.drew := (Below.refl _ _).drew
  have hS := HYO.out _ D0
  refine wp_region_noPanic ?_
  refine wp_region_anyE (S := fun Z => Z.cell? ⟨q, 3, none⟩ = some (.slice ao no co)) (E := fun j => decide (j < 10)) (by kernel_rfl) ?_
  refine anyE_gen (fun A0 hA0 => ?_)
  have s0 : A0.tmps.size = 156 := by rw [hA0]; rfl
  have v0_0 : A0.tmps[0]?.getD undef = .pointer (some ⟨q, 0, none⟩) := by rw [hA0]; rfl
  have v0_5 : A0.tmps[5]?.getD undef = (.slice al nl cl) := by rw [hA0]; rfl
  refine AnyE.take (i := 0) (.pointer (some ⟨q, 0, none⟩)) rfl (by kernel_rfl) (by kernel_rfl) (by kernel_rfl) (by kernel_rfl) (fun _ _ _ h => h) (.inl ⟨by rfl, fun wq hq => op_move v0_0⟩) hS ?_
  refine anyE_gen (fun A1 hA1 => ?_)
  have s1 : A1.tmps.size = 156 := by rw [hA1]; exact put_sz s0
  have v1_0 : A1.tmps[0]?.getD undef = (.pointer (some ⟨q, 0, none⟩)) := by rw [hA1]; exact put_ne (by decide) v0_0
  have v1_5 : A1.tmps[5]?.getD undef = ((.slice al nl cl)) := by rw [hA1]; exact put_ne (by decide) v0_5
  have v1_24 : A1.tmps[24]?.getD undef = (.pointer (some ⟨q, 0, none⟩)) := by rw [hA1]; exact put_eq s0 (by decide)
  refine AnyE.take (i := 1) (.pointer (some ⟨q, 0, none⟩)) rfl (by kernel_rfl) (by kernel_rfl) (by kernel_rfl) (by kernel_rfl) (fun _ _ _ h => h) (.inl ⟨by rfl, fun wq hq => op_move v1_0⟩) hS ?_
  refine anyE_gen (fun A2 hA2 => ?_)
  have s2 : A2.tmps.size = 156 := by rw [hA2]; exact put_sz s1
  have v2_5 : A2.tmps[5]?.getD undef = ((.slice al nl cl)) := by rw [hA2]; exact put_ne (by decide) v1_5
  have v2_24 : A2.tmps[24]?.getD undef = (.pointer (some ⟨q, 0, none⟩)) := by rw [hA2]; exact put_ne (by decide) v1_24
  have v2_25 : A2.tmps[25]?.getD undef = (.pointer (some ⟨q, 0, none⟩)) := by rw [hA2]; exact put_eq s1 (by decide)
  refine AnyE.take (i := 2) (.pointer (some ⟨q, 0, none⟩)) rfl (by kernel_rfl) (by kernel_rfl) (by kernel_rfl) (by kernel_rfl) (fun _ _ _ h => h) (.inl ⟨by rfl, fun wq hq => op_nil v2_25⟩) hS ?_
  refine anyE_gen (fun A3 hA3 => ?_)
  have s3 : A3.tmps.size = 156 := by rw [hA3]; exact put_sz s2
  have v3_5 : A3.tmps[5]?.getD undef = ((.slice al nl cl)) := by rw [hA3]; exact put_ne (by decide) v2_5
  have v3_24 : A3.tmps[24]?.getD undef = (.pointer (some ⟨q, 0, none⟩)) := by rw [hA3]; exact put_ne (by decide) v2_24
  have v3_26 : A3.tmps[26]?.getD undef = (.pointer (some ⟨q, 0, none⟩)) := by rw [hA3]; exact put_eq s2 (by decide)
  refine AnyE.take (i := 3) (.pointer (some ⟨q, 3, none⟩)) rfl (by kernel_rfl) (by kernel_rfl) (by kernel_rfl) (by kernel_rfl) (fun _ _ _ h => h) (.inl ⟨by rfl, fun wq hq => op_fieldO v3_26⟩) hS ?_
  refine anyE_gen (fun A4 hA4 => ?_)
  have s4 : A4.tmps.size = 156 := by rw [hA4]; exact put_sz s3
  have v4_5 : A4.tmps[5]?.getD undef = ((.slice al nl cl)) := by rw [hA4]; exact put_ne (by decide) v3_5
  have v4_24 : A4.tmps[24]?.getD undef = (.pointer (some ⟨q, 0, none⟩)) := by rw [hA4]; exact put_ne (by decide) v3_24
  have v4_27 : A4.tmps[27]?.getD undef = (.pointer (some ⟨q, 3, none⟩)) := by rw [hA4]; exact put_eq s3 (by decide)
  refine AnyE.take (i := 4) (.slice ao no co) rfl (by kernel_rfl) (by kernel_rfl) (by kernel_rfl) (by kernel_rfl) (fun _ _ _ h => h) (.inl ⟨by rfl, fun wq hq => op_loadLi v4_27 hq⟩) hS ?_
  refine anyE_gen (fun A5 hA5 => ?_)
  have s5 : A5.tmps.size = 156 := by rw [hA5]; exact put_sz s4
  have v5_5 : A5.tmps[5]?.getD undef = ((.slice al nl cl)) := by rw [hA5]; exact put_ne (by decide) v4_5
  have v5_24 : A5.tmps[24]?.getD undef = (.pointer (some ⟨q, 0, none⟩)) := by rw [hA5]; exact put_ne (by decide) v4_24
  have v5_28 : A5.tmps[28]?.getD undef = (.slice ao no co) := by rw [hA5]; exact put_eq s4 (by decide)
  refine AnyE.take (i := 5) (.slice al nl cl) rfl (by kernel_rfl) (by kernel_rfl) (by kernel_rfl) (by kernel_rfl) (fun _ _ _ h => h) (.inl ⟨by rfl, fun wq hq => op_move v5_5⟩) hS ?_
  refine anyE_gen (fun A6 hA6 => ?_)
  have s6 : A6.tmps.size = 156 := by rw [hA6]; exact put_sz s5
  have v6_24 : A6.tmps[24]?.getD undef = (.pointer (some ⟨q, 0, none⟩)) := by rw [hA6]; exact put_ne (by decide) v5_24
  have v6_28 : A6.tmps[28]?.getD undef = (.slice ao no co) := by rw [hA6]; exact put_ne (by decide) v5_28
  have v6_29 : A6.tmps[29]?.getD undef = (.slice al nl cl) := by rw [hA6]; exact put_eq s5 (by decide)
  refine AnyE.one (i := 6) rfl (by kernel_rfl) (by rfl) (fun K6 hK6 => ?_)
  refine wp_cloneAllA v6_29 (HCl.out _ D0) ?_
  rintro r1 w1 ⟨u1, zs, rfl, hcl, hzd⟩
  have D1 := D0.trans (hcl.below.mono D0.size)
  refine ⟨u1, rfl, hK6.out _ _ ⟨fun _ => HYO.out _ D1, ?_⟩⟩
  clear hK6
  refine anyE_gen (fun A7 hA7 => ?_)
  have s7 : A7.tmps.size = 156 := by rw [hA7]; exact put_sz s6
  have v7_24 : A7.tmps[24]?.getD undef = (.pointer (some ⟨q, 0, none⟩)) := by rw [hA7]; exact put_ne (by decide) v6_24
  have v7_28 : A7.tmps[28]?.getD undef = (.slice ao no co) := by rw [hA7]; exact put_ne (by decide) v6_28
  have v7_30 : A7.tmps[30]?.getD undef = (u1) := by rw [hA7]; exact put_eq s6 (by decide)
  refine AnyE.one (i := 7) rfl (by kernel_rfl) (by rfl) (fun K7 hK7 => ?_)
  have F1 := HFY.out _ D1
  refine wp_append_ents (xs := outs) (ys := zs) (.tmp 28) (.tmp 30) rfl (ev_tmp v7_28) F1.rout.row (ev_tmp v7_30) hcl.row hcl.ents (by have := HLen.out zs hzd; omega) (Nat.le_trans HB0.out D1.size) ?_
  intro a2 n2 c2 w2 en hr2 g2 lo2
  have bx2 : FlBx w2 q none (some ⟨rb, 0, none⟩) _ _ _ _ _ := F1.box.keep (g2.block q F1.box.lt (fun z => F1.aq.2.2.1 (F1.rout.rowO q z.symm)))
  refine hK7.out _ _ ⟨fun _ => bx2.c3, ?_⟩
  clear hK7
  refine anyE_gen (fun A8 hA8 => ?_)
  have s8 : A8.tmps.size = 156 := by rw [hA8]; exact put_sz s7
  have v8_24 : A8.tmps[24]?.getD undef = (.pointer (some ⟨q, 0, none⟩)) := by rw [hA8]; exact put_ne (by decide) v7_24
  have v8_31 : A8.tmps[31]?.getD undef = (.slice a2 n2 c2) := by rw [hA8]; exact put_eq s7 (by decide)
  refine AnyE.one (i := 8) rfl (by kernel_rfl) (by rfl) (fun K8 hK8 => ?_)
  refine wp_nil0 v8_24 ?_
  refine hK8.out _ _ ⟨fun _ => bx2.c3, ?_⟩
  clear hK8
  refine anyE_gen (fun A9 hA9 => ?_)
  have s9 : A9.tmps.size = 156 := by rw [hA9]; exact put_sz s8
  have v9_31 : A9.tmps[31]?.getD undef = (.slice a2 n2 c2) := by rw [hA9]; exact put_ne (by decide) v8_31
  have v9_32 : A9.tmps[32]?.getD undef = (.pointer (some ⟨q, 0, none⟩)) := by rw [hA9]; exact put_eq s8 (by decide)
  refine AnyE.one (i := 9) rfl (by kernel_rfl) (by rfl) (fun K9 hK9 => ?_)
  refine wp_fieldO v9_32 ?_
  refine hK9.out _ _ ⟨fun _ => bx2.c3, ?_⟩
  clear hK9
  refine anyE_gen (fun A10 hA10 => ?_)
  have s10 : A10.tmps.size = 156 := by rw [hA10]; exact put_sz s9
  have v10_31 : A10.tmps[31]?.getD undef = (.slice a2 n2 c2) := by rw [hA10]; exact put_ne (by decide) v9_31
  have v10_33 : A10.tmps[33]?.getD undef = (.pointer (some ⟨q, 3, none⟩)) := by rw [hA10]; exact put_eq s9 (by decide)
  refine AnyE.one (i := 10) rfl (by kernel_rfl) (by rfl) (fun K10 hK10 => ?_)
  refine wp_storeLi bx2.c3 (bx2.fz 3) v10_33 v10_31 ?_
  refine hK10.out _ _ ⟨fun h => (by cases h), ?_⟩
  clear hK10
  refine AnyE.done (by kernel_rfl) (NoPanic.normal ?_) _
  clear s0 v0_0 v0_5 s1 v1_0 v1_5 v1_24 s2 v2_5 v2_24 v2_25 s3 v3_5 v3_24 v3_26 s4 v4_5 v4_24 v4_27 s5 v5_5 v5_24 v5_28 s6 v6_24 v6_28 v6_29 s7 v7_24 v7_28 v7_30 s8 v8_24 v8_31 s9 v9_31 v9_32 s10 v10_31 v10_33
  subst hA10 hA9 hA8 hA7 hA6 hA5 hA4 hA3 hA2 hA1 hA0
  have FQ := F1.putOut H (w0 := X1.drew.heap.size) (fun i hi => (HFY.out _ (Below.refl _ _)).inlt H i hi |>.2) hcl.ents hcl.ap hcl.below.size hr2 g2 (fun k hk => (lo2 k hk).imp id (fun z => Nat.le_of_eq z.symm))
  have HEn := Lib.hid en
  have HFQ := Lib.hid FQ
  have HZd := Lib.hid hzd
  have HD1 := Lib.hid D1
  obtain ⟨X2, hX2⟩ : ∃ Y, Y = w2.setCell ⟨q, 3, none⟩ (.slice a2 n2 c2) := ⟨_, rfl⟩
  rw [← hX2] at HFQ ⊢
  clear hX2 en FQ hzd D1 D0 hS hcl F1 hr2 g2 lo2 bx2
  obtain ⟨Oo2, hOo2⟩ : ∃ O : Nat → Prop, O = (fun i => Oo i ∨ (X1.drew.heap.size ≤ i ∧ i < w2.heap.size)) := ⟨_, rfl⟩
  have HOo2 := Lib.hid hOo2
  rw [← hOo2] at HFQ
  clear hOo2
  have HSp12 : Hid (SpF X1 X2 (FlP q wb rb fv spZ la Oi Oo)) := SpF.then (SpF.of_below _ HD1.out) HFQ.out.2 (fun i _ z => z)
  have HCs : Hid (Calls Tryz.prog 97 #[.slice al nl cl] X2 fun r W' => r = .returned (.bool true) ∧ SpF X2 W' Or) := by
    refine spoil_any (HLw.out.keep (fun i hi => HSp12.out.block i (HOr.out i hi).1 (HOr.out i hi).2)) (fun i hi => Nat.lt_of_lt_of_le (HOr.out i hi).1 HSp12.out.size) (Nat.le_trans HB0.out HSp12.out.size) (fun x hx => ?_) (by have := HQ4.out; have := HL.out; omega)
    have := HQ1.out x hx
    exact ⟨⟨Nat.le_trans this.2.1 (by decide), Nat.le_trans this.2.2.1 (by decide), Nat.le_trans this.2.2.2 (by decide)⟩, this.1⟩
  go_wp2_with fail
  refine Calls.mono HCs.out ?_
  rintro r X3 ⟨rfl, sps⟩
  have HSs := Lib.hid sps
  clear sps HCs
  have HFl2 : Hid (∀ i, FlP q wb rb fv spZ la Oi Oo2 i → FlP q wb rb fv spZ la Oi Oo i ∨ X1.heap.size ≤ i) := fun i hi => by
    rw [HOo2.out] at hi
    rcases hi with z | z | z | z | z
    · exact .inl (.inl z)
    · exact .inl (.inr (.inl z))
    · exact .inl (.inr (.inr (.inl z)))
    · exact z.imp (fun y => .inr (.inr (.inr (.inl y)))) (fun y => y.1)
    · exact .inl (.inr (.inr (.inr (.inr z))))
  have HF3 : Hid (∀ Z, Below X3.heap.size X3 Z → Fm B wb g rb q fv fs clock T none (some ⟨rb, 0, none⟩) Z ins (outs ++ zs) la s.begun (D V0) (.slice ai ni ci) (.slice a2 n2 c2) spZ (OO (V0 ++ us) ++ xs.map EntD.dat) (V0 ++ us ++ (resolveS (mt fs) clock s.dat 3).1) Oi Oo2) := fun Z b => by
    have f := HFQ.out.1
    refine (f.keep H HSs.out.size (fun i hi => HSs.out.block i (f.inlt H i hi).2 (fun z => ?_))).later H b
    rcases HFl2.out i hi with y | y
    · exact (HOr.out i z).2 y
    · have := (HOr.out i z).1; omega
  have HSp3 : Hid (SpF W X3 (FlP q wb rb fv s la Oi Oo)) := by
    refine SpF.then (SpF.then HSp1.out HSp12.out (fun i h1 h2 => ?_)) HSs.out (fun i h1 h2 => ?_)
    · rcases HP1.out i h2 with z | z
      · exact z
      · have := HXs.out; have := HcN.out; omega
    · have := (HSt.out.new i h2).1; have := HXs.out; have := HcN.out; omega
  have Hcb3 : Hid (CBx X3 cN fa fs.length fc clock major low t nv) := by
    have l1 := (Array.getElem?_eq_some_iff.1 Hcb1.out).1
    refine (HSs.out.block cN (Nat.lt_of_lt_of_le l1 HSp12.out.size) (fun z => ?_)).trans ((HSp12.out.block cN l1 (fun z => ?_)).trans Hcb1.out)
    · have := (HSt.out.new cN z).1; have := HXs.out; omega
    · rcases HP1.out cN z with y | y
      · have := HNo.out cN y; omega
      · have := HXs.out; omega
  have HK3 : Hid (∀ Z, Below X3.heap.size X3 Z → (Z.cell? ⟨cN, 0, none⟩ = some (.slice fa fs.length fc) ∧ Z.cell? ⟨cN, 1, none⟩ = some (.int .i64 clock) ∧ Z.cell? ⟨cN, 2, none⟩ = some (.bool major) ∧ Z.cell? ⟨cN, 3, none⟩ = some (.int .i64 low) ∧ Z.cell? ⟨cN, 4, none⟩ = some (.int .i64 t) ∧ Z.cell? ⟨cN, 5, none⟩ = some (.int .i64 nv)) ∧ Z.cell? ⟨q, 3, none⟩ = some (.slice a2 n2 c2) ∧ Z.cell? ⟨q, 2, none⟩ = some (.slice ai ni ci)) := fun Z b => ⟨CBx.cells ((b.block cN (Array.getElem?_eq_some_iff.1 Hcb3.out).1).trans Hcb3.out), (HF3.out Z b).box.c3, (HF3.out Z b).box.c2⟩
  have D3 : Below X3.heap.size X3 X3.drew := (Below.refl _ _).drew
  have HRdF : Hid (∀ Z, Below X3.heap.size X3 Z → RdF Z (.slice fa fs.length fc) fs) := fun Z b => HIn.out Z (SpF.below HSp3.out b)
  have HCw : Hid (Calls Tryz.prog 98 #[.pointer (some ⟨q, 0, none⟩), .agg #[.slice fa fs.length fc, .int .i64 clock, .bool major, .int .i64 low, .int .i64 t, .int .i64 nv], .slice ai ni ci] X3.drew fun r w' => ∃ (v : Value) (zs : List EntD) (m : List En), r = .returned v ∧ IsOrd fs.length (ins.map EntD.dat) m ∧ Vw X3.drew w' zs v (wa m)) := by
    have f8 := HF3.out _ D3
    obtain ⟨a, c, e1, -, r⟩ := f8.rin.rdl (fun x hx => (HD.out.szi x hx).1)
    have hni := Hni.out
    subst hni
    cases e1
    exact HWa.out _ _ _ _ f8.box.c0 (HRdF.out _ D3) r (by have := HL.out; omega) HD.out.inOrd
  have HCa : Hid (∀ (w : World) (aa : Option Addr) (ca : Nat) (za : List EntD) (m' : List En), IsOrd fs.length (ins.map EntD.dat) m' → Vw X3.drew w za (.slice aa za.length ca) (wa m') → Calls Tryz.prog 18 #[.slice a2 n2 c2, .slice aa za.length ca] w fun r w' => r = .returned (.bool true) ∧ Below w.heap.size w w') := fun w aa ca za m' hio hvw => by
    have b4 := D3.trans (hvw.below.mono D3.size)
    have hmm := hio.unique HD.out.isOrd
    have hall : (outs ++ zs).map EntD.dat = za.map EntD.dat := by rw [List.map_append, HZd.out, HQ2.out, hvw.dat, hmm]
    have hen := HEn.out
    obtain ⟨a, cc, e1, -, r⟩ := (HF3.out w b4).rout.rdl (fun x hx => by
      have : x.dat ∈ outs.map EntD.dat ++ xs.map EntD.dat := by rw [← HZd.out, ← List.map_append]; exact List.mem_map_of_mem hx
      rcases List.mem_append.1 this with z | z
      · obtain ⟨y2, h1, h2⟩ := List.mem_map.1 z
        rw [← h2]; exact (HD.out.outSz K y2 h1).1
      · obtain ⟨y2, h1, h2⟩ := List.mem_map.1 z
        rw [← h2]; exact (HQ1.out y2 h1).1)
    rw [hen] at e1 ⊢
    cases e1
    exact sameAll_ok r (hvw.rdk (fun g _ _ => rfl)) hall (by rw [List.length_append]; exact HLen.out zs HZd.out)
  have z1 := HK3.out _ D3
  go_upto_region 7 with fail
  go_region_held3 (fun Z => (Z.cell? ⟨cN, 0, none⟩ = some (.slice fa fs.length fc) ∧ Z.cell? ⟨cN, 1, none⟩ = some (.int .i64 clock) ∧ Z.cell? ⟨cN, 2, none⟩ = some (.bool major) ∧ Z.cell? ⟨cN, 3, none⟩ = some (.int .i64 low) ∧ Z.cell? ⟨cN, 4, none⟩ = some (.int .i64 t) ∧ Z.cell? ⟨cN, 5, none⟩ = some (.int .i64 nv)) ∧ Z.cell? ⟨q, 3, none⟩ = some (.slice a2 n2 c2) ∧ Z.cell? ⟨q, 2, none⟩ = some (.slice ai ni ci)) (first | exact z1 | exact z2 | exact z3) (first | (go_at_call 98; refine Calls.mono HCw.out ?_; rintro r X4 ⟨va, za, m', rfl, hio, hvw⟩; have b4 : Below X3.heap.size X3 X4 := D3.trans (hvw.below.mono D3.size); have z2 := HK3.out X4 b4; obtain ⟨aa, ca, ea⟩ := hvw.form; subst ea; have HC8 := HCa.out _ _ _ _ _ hio hvw) | (go_at_call 18; refine Calls.mono HC8 ?_; rintro r X5 ⟨rfl, b5⟩; have z3 := HK3.out X5 (b4.trans (b5.mono b4.size))))
  have HB5 := Lib.hid (b4.trans (b5.mono b4.size))
  clear z1 z2 z3 hio hvw b4 b5 HC8 D3 HCw HCa
  have HF5 := Lib.hid (HF3.out X5 HB5.out)
  have c0 := HF5.out.box.c0
  have c2 := HF5.out.box.c2
  have c3 := HF5.out.box.c3
  have c4 := HF5.out.box.c4
  have c5 := HF5.out.box.c5
  have c6 := HF5.out.box.c6
  have c7 := HF5.out.box.c7
  have c8 := HF5.out.box.c8
  have c9 := HF5.out.box.c9
  have c10 := HF5.out.box.c10
  have c11 := HF5.out.box.c11
  have fz := HF5.out.box.fz
  go_wp2
  go_ret
  obtain ⟨Y, hY, bxY, grY⟩ := FlBx.lastZ HF5.out.box
  rw [← hY]
  have fr := (HF5.out.reset H bxY grY).cast (has' := spZ.begun) (hd' := OO ((V0 ++ us ++ (resolveS (mt fs) clock s.dat 3).1) ++ [])) (vs' := (V0 ++ us ++ (resolveS (mt fs) clock s.dat 3).1) ++ []) rfl (HT1.out.trans (congrArg OO (List.append_nil _).symm)) (List.append_nil _).symm
  have hct : D V0 = D (V0 ++ us ++ (resolveS (mt fs) clock s.dat 3).1) := hD _ _
  rw [hct] at fr
  refine ⟨rfl, V0 ++ us ++ (resolveS (mt fs) clock s.dat 3).1, _, ⟨[], [], entZ, _, _, spZ, [], [], [], _, _, fr, HQ3.out, rfl⟩, ?_, fun i hi => ?_⟩
  · exact (SpF.below HSp3.out HB5.out).grown grY (fun k hk => .inl (Option.some.inj hk).symm)
  · rcases hi with z | z | z | z | z
    · exact .inl (.inl z)
    · rcases HSt.out.its i z with y | y
      · exact .inl (.inr (.inl y))
      · exact .inr (by have := HXs.out; have := HcN.out; omega)
    · exact z.elim
    · exact z.elim
    · rcases z with z | z | z <;> cases z

end Go.Proofs.YthhkpkfpifllkaaGreat

namespace Go.Proofs.YthhkpkfpifllkaaGreat
open Go.RowKit
set_option linter.unusedVariables false

theorem schema_tl {fs : List FamD} (h : SchemaOk fs) : ∀ f ∈ fs, 0 ≤ f.tl ∧ f.tl ≤ 1099511627776 := fun f hf => by
  obtain ⟨i, hi⟩ := List.getElem?_of_mem hf
  exact (h.2 i f hi).1.2.2
theorem rw_empty {w : World} {N : Nat} {v : Value} {xs : List EntD} {O : Nat → Prop} (h : Rw w N v xs O) (hO : ∀ i, ¬ O i) : xs = [] := by
  rcases h.row.2 with ⟨h1, h2⟩ | ⟨g, cap, cur, h1, _⟩
  · exact List.eq_nil_of_length_eq_zero h2
  · exact absurd (h.rowO g (by rw [h1]; rfl)) (hO g)
theorem tr_all {hd : List En} {fb N : Nat} {cp : Option Addr} {tm n : Int} {W : World} {vs : List Vd} (h : TR hd fb N cp tm n W (fun i => i = fb) vs) : hd = (showS tm n vs).2 := by
  obtain ⟨xs, ov, Or, h1, h2, h3, h4, h5⟩ := h.st
  have := rw_empty h2 (fun i hi => h3 (h4 i hi ▸ hi))
  subst this
  simpa using h5
theorem Fl.start {B wb g rb q c' : Nat} {a' : Option Addr} {fs : List FamD} {clock : Int} {T : List En → World → (Nat → Prop) → List Vd → Prop} {OO : List Vd → List En} {pf pr : Option Addr} {ct : Ct} {W : World} (h0 : OO [] = []) (hq : B ≤ q) (hr : B ≤ rb) (hw : B ≤ wb) (n1 : q ≠ rb) (n2 : q ≠ wb) (bx : FlBx W q pf pr (.slice none 0 0) (.slice none 0 0) entZ false ct) (re : Rest B wb g rb (.slice a' fs.length c') fs clock (T []) W spZ []) : ∃ P, Fl B wb g rb q (.slice a' fs.length c') fs clock T OO pf pr ct [] W 0 P := by
  have nz : ∀ i, ¬ EBl entZ i := fun i z => by rcases z with z | z | z <;> cases z
  have nl : ∀ i, ¬ Lst spZ i := fun i z => by rcases z with z | z | z <;> cases z
  refine ⟨_, [], [], entZ, _, _, spZ, [], [], [], (fun _ => False), (fun _ => False), ⟨bx, ?_, Rw.nil _ _ _, Rw.nil _ _ _, ⟨ownNil _ _, ownNil _ _, ownNil _ _, (fun k hk => by cases hk), (fun k hk => by cases hk), (fun k hk => by cases hk)⟩, ⟨hq, hw, hr⟩, fun i hi => hi.elim False.elim False.elim, ⟨?_, id, id, nz q⟩, fun i hi => ⟨id, id, nz i⟩, fun i hi => hi.elim, fun i hi => hi.elim⟩, ⟨.nil, rfl, h0.symm, (fun z => by cases z), ?_, (fun x hx => by cases hx), (fun v hv => by cases hv), Nat.le_refl _⟩, rfl⟩
  · show Rest B wb g rb _ fs clock (T (OO [])) W spZ []
    rw [h0]; exact re
  · rintro (z | z | z | z)
    · exact n2 z
    · exact n1 z
    · exact nl q z
    · obtain ⟨a, c, e1, ho⟩ := re.fam
      rw [e1] at z
      have t1 := row_tyd ho.2 z
      exact (t1.ne (g' := q) ⟨_, _, bx⟩ (by decide)) rfl
  · exact ⟨⟨⟨(fun x hx => by cases hx), (fun x hx => by cases hx), (fun x hx => by cases hx)⟩, by decide, by decide, by decide⟩, by decide, by decide, by decide⟩
def Made (B0 : Nat) (cv : Value) (RD : World → Prop) (w w' : World) (r : Ending) : Prop := ∃ pp P, r = .returned (.tuple #[.pointer pp, .bool true]) ∧ FlowO B0 cv RD pp w' 0 P ∧ Below w.heap.size w w' ∧ ∀ i, P i → w.heap.size ≤ i
set_option maxRecDepth 100000 in
theorem reader_made {w : World} {B0 : Nat} (hB0 : B0 ≤ w.heap.size) {fa : Option Addr} {fc : Nat} {fs : List FamD} (hr : RdF w (.slice fa fs.length fc) fs) (hnn : fa = none → fc = 0) (C : Nat) (hC : (C = 0 ↔ SchemaOk fs) ∧ (C = 0 ∨ C = 28)) (clock low t nv : Int) (major : Bool) :
    Calls Tryz.prog 67 #[.agg #[.slice fa fs.length fc, .int .i64 clock, .bool major, .int .i64 low, .int .i64 t, .int .i64 nv], .bool true] w fun r w' => Made B0 (.agg #[.slice fa fs.length fc, .int .i64 clock, .bool major, .int .i64 low, .int .i64 t, .int .i64 nv]) (fun Z => RdF Z (.slice fa fs.length fc) fs) w w' r := by
  refine (madeR_any hr hnn C hC clock low t nv major).mono ?_
  rintro r w' ⟨b, k1, k2⟩
  by_cases hz : readerS C clock t nv = 0
  · obtain ⟨q, fb, wb, a', c', rfl, h1, h2, h3, h4, h5, bx, re⟩ := k2 hz
    have hC0 : C = 0 ∧ 1 ≤ nv := by
      have q := reader_ok hz
      exact ⟨(bounds_ok q.1).1, by omega⟩
    have hS := hC.1.1 hC0.1
    have hfs := schema_tl hS
    have HH := reader_hands fb w.heap.size (some ⟨wb, 0, none⟩) t nv
    have KK := kd_reader hS clock t nv (by omega)
    have hE : ∀ ls : List EntD, inOrderE (check3S fs.length) ls = 0 → askE C fs clock 0 t nv ls = 0 := fun ls hl => by
      have q := hz
      rw [reader_ask C fs] at q
      unfold askE at q ⊢
      split at q
      · rename_i x; exact absurd hC0.1 x
      · rename_i x
        rw [if_neg x]
        split at q
        · exact absurd q (by decide)
        · rename_i y; rw [if_neg y]; exact hl
    obtain ⟨P, hP⟩ := Fl.start (OO := fun vs => (showS t nv vs).2) (T := fun hd => TR hd fb w.heap.size (some ⟨wb, 0, none⟩) t nv) rfl h1 h2 h3 h4 h5 bx re
    refine ⟨some ⟨q, 0, none⟩, P, rfl, .inr ⟨q, fun W n P => ∃ V0, Fl w.heap.size wb 71 fb q (.slice a' fs.length c') fs clock (fun hd => TR hd fb w.heap.size (some ⟨wb, 0, none⟩) t nv) (fun vs => (showS t nv vs).2) none (some ⟨fb, 0, none⟩) ⟨0, 0, 0, 0, 0⟩ V0 W n P, 0, rfl, ⟨?_, ?_, ?_, ?_⟩, ⟨[], hP⟩, Nat.le_refl _⟩, b, fun i hi => ?_⟩
    · rintro W W' n P ⟨V0, ins, outs, la, vi, vo, s, us, l, m, Oi, Oo, f1, f2, rfl⟩ hs hk
      exact ⟨V0, ins, outs, la, vi, vo, s, us, l, m, Oi, Oo, f1.keep HH hs hk, f2, rfl⟩
    · rintro W n P i ⟨V0, ins, outs, la, vi, vo, s, us, l, m, Oi, Oo, f1, f2, rfl⟩ hi
      have := f1.inlt HH i hi
      exact ⟨Nat.le_trans hB0 this.1, this.2⟩
    · rintro W n P e ⟨V0, hf⟩ hin hsh hn
      refine (pushR_any HH KK (fun hd W vs h => tr_all h) (fun w a cap ls c0 rf rl hl ho => wantR_any c0 rf C hC clock low t nv major rl hl (hE ls ho)) hfs hf hin hsh hn).mono ?_
      rintro r W' ⟨rfl, P', f, sp, hP'⟩
      exact ⟨rfl, P', ⟨V0, f⟩, sp, hP'⟩
    · rintro W n P ⟨V0, hf⟩ hin hn
      refine (endR_any (fun _ => ⟨0, 0, 0, 0, 0⟩) (fun _ _ => rfl) HH KK (fun hd W vs h => tr_all h) (fun w a cap ls c0 rf rl hl ho => wantR_any c0 rf C hC clock low t nv major rl hl (hE ls ho)) hfs hf hin hn).mono ?_
      rintro r W' ⟨rfl, V1, P', f, sp, hP'⟩
      exact ⟨rfl, P', ⟨V1, f⟩, sp, hP'⟩
    · obtain ⟨ins, outs, la, vi, vo, s, us, l, m, Oi, Oo, f1, f2, rfl⟩ := hP
      exact (f1.inlt HH i hi).1
  · exact ⟨none, fun _ => False, k1 hz, .inl ⟨rfl, fun _ => id⟩, b, fun i hi => hi.elim⟩
end Go.Proofs.YthhkpkfpifllkaaGreat

namespace Go.Proofs.YthhkpkfpifllkaaGreat
open Go.RowKit
set_option linter.unusedVariables false

theorem CBx.fz {w : World} {b : Nat} {fa : Option Addr} {K fc : Nat} {clock low t nv : Int} {major : Bool} (h : CBx w b fa K fc clock major low t nv) (i : Nat) : w.frozen? ⟨b, i, none⟩ = false := by unfold CBx at h; simp [World.frozen?, h]
theorem CBx.set6 {w : World} {b : Nat} {fa : Option Addr} {K fc : Nat} {clock low t nv : Int} {major : Bool} (h : CBx w b fa K fc clock major low t nv) (fa2 : Option Addr) (K2 fc2 : Nat) (k2 l2 t2 n2 : Int) (m2 : Bool) : ∃ Y, Y = (((((w.setCell ⟨b, 0, none⟩ (.slice fa2 K2 fc2)).setCell ⟨b, 1, none⟩ (.int .i64 k2)).setCell ⟨b, 2, none⟩ (.bool m2)).setCell ⟨b, 3, none⟩ (.int .i64 l2)).setCell ⟨b, 4, none⟩ (.int .i64 t2)).setCell ⟨b, 5, none⟩ (.int .i64 n2) ∧ CBx Y b fa2 K2 fc2 k2 m2 l2 t2 n2 ∧ w.grownBy Y (some b) := by
  refine ⟨_, rfl, ?_, grownQ (grownQ (grownQ (grownQ (grownQ (grown1 _ _ _ _) (grown1 _ _ _ _)) (grown1 _ _ _ _)) (grown1 _ _ _ _)) (grown1 _ _ _ _)) (grown1 _ _ _ _)⟩
  unfold CBx at *
  simp [World.setCell, Array.getElem?_modify, h]
theorem two_box (w : World) (fa1 fa2 : Option Addr) (K1 fc1 K2 fc2 : Nat) (k1 l1 t1 n1 k2 l2 t2 n2 : Int) (m1 m2 : Bool) : ∃ X, X = (w.alloc (.cells #[.slice fa1 K1 fc1, .int .i64 k1, .bool m1, .int .i64 l1, .int .i64 t1, .int .i64 n1] 62)).alloc (.cells #[.slice fa2 K2 fc2, .int .i64 k2, .bool m2, .int .i64 l2, .int .i64 t2, .int .i64 n2] 62) ∧ Below w.heap.size w X ∧ X.heap.size = w.heap.size + 2 ∧ CBx X w.heap.size fa1 K1 fc1 k1 m1 l1 t1 n1 ∧ CBx X (w.heap.size + 1) fa2 K2 fc2 k2 m2 l2 t2 n2 := by
  refine ⟨_, rfl, ((Below.refl _ w).alloc (Nat.le_refl _) _).alloc (by rw [World.size_alloc]; exact Nat.le_succ _) _, by rw [World.size_alloc, World.size_alloc], ?_, ?_⟩
  · unfold CBx
    exact ((Below.refl _ (w.alloc (.cells #[.slice fa1 K1 fc1, .int .i64 k1, .bool m1, .int .i64 l1, .int .i64 t1, .int .i64 n1] 62))).alloc (Nat.le_refl _) (.cells #[.slice fa2 K2 fc2, .int .i64 k2, .bool m2, .int .i64 l2, .int .i64 t2, .int .i64 n2] 62)).block w.heap.size (by rw [World.size_alloc]; exact Nat.lt_succ_self _) |>.trans (heap_new w _)
  · have := heap_new (w.alloc (.cells #[.slice fa1 K1 fc1, .int .i64 k1, .bool m1, .int .i64 l1, .int .i64 t1, .int .i64 n1] 62)) (.cells #[.slice fa2 K2 fc2, .int .i64 k2, .bool m2, .int .i64 l2, .int .i64 t2, .int .i64 n2] 62)
    rwa [World.size_alloc] at this
set_option maxRecDepth 100000 in
set_option maxHeartbeats 16000000 in
theorem streams_any {W : World} {rd : Bool} {fa1 fa2 : Option Addr} {fc1 fc2 : Nat} {fs1 fs2 : List FamD} {k1 l1 t1 n1 k2 l2 t2 n2 : Int} {m1 m2 : Bool} {aL : Option Addr} {cL : Nat} {ls : List EntD} {vj : Value} {js : List Int} (hr1 : RdF W (.slice fa1 fs1.length fc1) fs1) (hr2 : RdF W (.slice fa2 fs2.length fc2) fs2) (hl : RdL3 W aL cL ls) (hlen : ls.length ≤ 1353245080300) (hsh : ∀ x ∈ ls, ShrtW x) (hj : RdJ W vj js)
    (M1 : ∀ (w : World) (B0 : Nat), B0 ≤ w.heap.size → RdF w (.slice fa1 fs1.length fc1) fs1 → Calls Tryz.prog 67 #[.agg #[.slice fa1 fs1.length fc1, .int .i64 k1, .bool m1, .int .i64 l1, .int .i64 t1, .int .i64 n1], .bool rd] w fun r w' => Made B0 (.agg #[.slice fa1 fs1.length fc1, .int .i64 k1, .bool m1, .int .i64 l1, .int .i64 t1, .int .i64 n1]) (fun Z => RdF Z (.slice fa1 fs1.length fc1) fs1) w w' r)
    (M2 : ∀ (w : World) (B0 : Nat), B0 ≤ w.heap.size → RdF w (.slice fa2 fs2.length fc2) fs2 → Calls Tryz.prog 67 #[.agg #[.slice fa2 fs2.length fc2, .int .i64 k2, .bool m2, .int .i64 l2, .int .i64 t2, .int .i64 n2], .bool rd] w fun r w' => Made B0 (.agg #[.slice fa2 fs2.length fc2, .int .i64 k2, .bool m2, .int .i64 l2, .int .i64 t2, .int .i64 n2]) (fun Z => RdF Z (.slice fa2 fs2.length fc2) fs2) w w' r) :
    Calls Tryz.prog 29 #[.agg #[.slice fa1 fs1.length fc1, .int .i64 k1, .bool m1, .int .i64 l1, .int .i64 t1, .int .i64 n1], .agg #[.slice fa2 fs2.length fc2, .int .i64 k2, .bool m2, .int .i64 l2, .int .i64 t2, .int .i64 n2], .slice aL ls.length cL, vj, .bool rd] W fun r w' => r = .returned (.bool true) ∧ Below W.heap.size W w' := by
  obtain ⟨X, hX, A, hXs, cb1, cb2⟩ := two_box W fa1 fa2 fs1.length fc1 fs2.length fc2 k1 l1 t1 n1 k2 l2 t2 n2 m1 m2
  obtain ⟨aj, cj, rfl, hjc, hjm, hja⟩ := hj
  obtain ⟨nj, hnj⟩ : ∃ k, k = js.length := ⟨_, rfl⟩
  obtain ⟨N, hNl⟩ : ∃ k, k = ls.length := ⟨_, rfl⟩
  have HR1 : Hid (∀ Z, Below X.heap.size X Z → RdF Z (.slice fa1 fs1.length fc1) fs1) := fun Z b => hr1.later (A.trans (b.mono A.size))
  have HR2 : Hid (∀ Z, Below X.heap.size X Z → RdF Z (.slice fa2 fs2.length fc2) fs2) := fun Z b => hr2.later (A.trans (b.mono A.size))
  have HLs : Hid (∀ Z, Below X.heap.size X Z → RdL3 Z aL cL ls) := fun Z b => hl.later (A.trans (b.mono A.size))
  have HJs : Hid (∀ Z, Below X.heap.size X Z → RdJ Z (.slice aj js.length cj) js) := fun Z b => RdJ.later ⟨aj, cj, rfl, hjc, hjm, hja⟩ (A.trans (b.mono A.size))
  have HM1 := Lib.hid M1
  have HM2 := Lib.hid M2
  have HSh := Lib.hid hsh
  have HNl := Lib.hid hNl
  have Hnj := Lib.hid hnj
  have HA := Lib.hid A
  have HX := Lib.hid hX
  have HN : Hid (N ≤ 1353245080300) := by unfold Hid; rw [hNl]; exact hlen
  obtain ⟨cN, hcN⟩ : ∃ k, k = W.heap.size := ⟨_, rfl⟩
  have hcN' := hcN.symm
  rw [← hcN] at cb1 cb2 hXs
  have HXs := Lib.hid hXs
  have HcN := Lib.hid hcN
  have Hc1 : Hid (∀ Z, Below X.heap.size X Z → CBx Z cN fa1 fs1.length fc1 k1 m1 l1 t1 n1) := fun Z b => (b.block cN (by omega)).trans cb1
  have Hc2 : Hid (∀ Z, Below X.heap.size X Z → CBx Z (cN + 1) fa2 fs2.length fc2 k2 m2 l2 t2 n2) := fun Z b => (b.block (cN + 1) (by omega)).trans cb2
  have hlc := hl.cap
  rw [← hNl] at hlc ⊢
  rw [← hnj] at hjc ⊢
  clear hX A hXs cb1 cb2 hr1 hr2 hl hlen hsh M1 M2 hNl hnj hcN hja
  go_enter Tryz.func29, Tryz.ntmps29
  go_upto_region 1 with fail
  rw [← HX.out]
  (try rw [hcN'])
  clear HX hcN'
  go_wp2_with fail
  refine Calls.mono (started3 X) ?_
  rintro r X1 ⟨rfl, b1⟩
  have HB1 := Lib.hid b1
  clear b1
  have HC1 := Lib.hid (HM1.out X1 X.heap.size HB1.out.size (HR1.out X1 HB1.out))
  obtain ⟨y0, y1, y2, y3, y4, y5⟩ := (Hc1.out X1 HB1.out).cells
  go_wp2_with fail
  refine Calls.mono HC1.out ?_
  rintro r X2 ⟨pp, Pp, rfl, f1, b2, p2⟩
  clear y0 y1 y2 y3 y4 y5 HC1
  have HB2 := Lib.hid (HB1.out.trans (b2.mono HB1.out.size))
  have HC2 := Lib.hid (HM2.out X2 X.heap.size HB2.out.size (HR2.out X2 HB2.out))
  obtain ⟨y0, y1, y2, y3, y4, y5⟩ := (Hc2.out X2 HB2.out).cells
  have HF1 := Lib.hid f1
  clear b2 f1 p2
  go_wp2_with fail
  refine Calls.mono HC2.out ?_
  rintro r X3 ⟨qq, Pq, rfl, f2, b3, p3⟩
  clear y0 y1 y2 y3 y4 y5 HC2
  have HTw0 : Hid (Tw X (.agg #[.slice fa1 fs1.length fc1, .int .i64 k1, .bool m1, .int .i64 l1, .int .i64 t1, .int .i64 n1]) (.agg #[.slice fa2 fs2.length fc2, .int .i64 k2, .bool m2, .int .i64 l2, .int .i64 t2, .int .i64 n2]) (fun Z => RdF Z (.slice fa1 fs1.length fc1) fs1) (fun Z => RdF Z (.slice fa2 fs2.length fc2) fs2) pp qq X3 0) := ⟨⟨Pp, Pq, HF1.out.keep (Nat.le_refl _) b3.size (fun i hi => b3.block i (HF1.out.lt i hi).2), f2, fun i hi hj => by have := (HF1.out.lt i hi).2; have := p3 i hj; omega⟩, HB2.out.trans (b3.mono HB2.out.size)⟩
  clear f2 b3 p3
  go_wp2
  go_loopw [11, 14, 15, 16] (fun ok i x k wr => ∃ t : Nat, t ≤ N ∧ ok = .bool true ∧ i = .int .i64 (t : Int) ∧ Hid (Tw X (.agg #[.slice fa1 fs1.length fc1, .int .i64 k1, .bool m1, .int .i64 l1, .int .i64 t1, .int .i64 n1]) (.agg #[.slice fa2 fs2.length fc2, .int .i64 k2, .bool m2, .int .i64 l2, .int .i64 t2, .int .i64 n2]) (fun Z => RdF Z (.slice fa1 fs1.length fc1) fs1) (fun Z => RdF Z (.slice fa2 fs2.length fc2) fs2) pp qq wr t)) (fun ok i x k _ => N - (intOf i).toNat)
  case atStart => exact ⟨0, Nat.zero_le _, rfl, rfl, HTw0.out⟩
  case round =>
    obtain ⟨t, ht, rfl, rfl, HTw⟩ := hrel
    have t0 : (0 : Int) ≤ (t : Int) := by omega
    by_cases hlt : t < N
    · have hlt2 : (t : Int) < (N : Int) := by omega
      have hNb : N ≤ 1353245080300 := HN.out
      have hlc2 : (t : Int) < (cL : Int) := by omega
      obtain ⟨x, hx⟩ : ∃ x, ls[t]? = some x := ⟨_, List.getElem?_eq_getElem (by have := HNl.out; omega)⟩
      obtain ⟨bL, oL, eaL, hcells⟩ : ∃ bL oL, aL = some ⟨bL, oL, none⟩ ∧ ∀ Z, Below X.heap.size X Z → Z.cell? ⟨bL, oL + t * 7, none⟩ = some x.vr ∧ Z.cell? ⟨bL, oL + t * 7 + 1, none⟩ = some (.int .i64 x.fam) ∧ Z.cell? ⟨bL, oL + t * 7 + 2, none⟩ = some x.vq ∧ Z.cell? ⟨bL, oL + t * 7 + 3, none⟩ = some (.int .i64 x.ts) ∧ Z.cell? ⟨bL, oL + t * 7 + 4, none⟩ = some (.int .i64 x.seq) ∧ Z.cell? ⟨bL, oL + t * 7 + 5, none⟩ = some (.int .i64 x.kind) ∧ Z.cell? ⟨bL, oL + t * 7 + 6, none⟩ = some x.vv := by
        rcases (HLs.out X (Below.refl _ _)).at_ with z | ⟨b, off, e1, _⟩
        · rw [z] at hx; cases hx
        · refine ⟨b, off, e1, fun Z bz => ?_⟩
          rcases (HLs.out Z bz).at_ with z | ⟨b', off', e2, hc⟩
          · rw [z] at hx; cases hx
          · rw [e1] at e2
            cases e2
            have q := fun j u hj => hc t x hx j u hj
            exact ⟨q 0 _ rfl, q 1 _ rfl, q 2 _ rfl, q 3 _ rfl, q 4 _ rfl, q 5 _ rfl, q 6 _ rfl⟩
      subst eaL
      have HCells := Lib.hid hcells
      have HOk : Hid (∀ Z, Below X.heap.size X Z → EntD.Ok Z x) := fun Z b => (HLs.out Z b).ok x (List.mem_of_getElem? hx)
      have HShx : Hid (ShrtW x) := HSh.out x (List.mem_of_getElem? hx)
      clear hx hcells
      have HBw := Lib.hid HTw.out.below
      obtain ⟨y0, y1, y2, y3, y4, y5⟩ := (Hc1.out wr HBw.out).cells
      obtain ⟨V, hV⟩ : ∃ Y, Y = wr.alloc (.cells #[.slice fa1 fs1.length fc1, .int .i64 k1, .bool m1, .int .i64 l1, .int .i64 t1, .int .i64 n1] 62) := ⟨_, rfl⟩
      obtain ⟨kb, hkb⟩ : ∃ k, k = wr.heap.size := ⟨_, rfl⟩
      have HbV : Hid (Below wr.heap.size wr V) := by unfold Hid; rw [hV]; exact (Below.refl _ _).alloc (Nat.le_refl _) _
      have HcV : Hid (CBx V kb fa1 fs1.length fc1 k1 m1 l1 t1 n1) := by unfold Hid; rw [hV, hkb]; exact heap_new wr _
      have HV := Lib.hid hV
      have Hkb := Lib.hid hkb
      have hkb' := hkb.symm
      clear hV hkb
      go_upto_region 15 with fail
      rw [← HV.out]
      (try rw [hkb'])
      clear y0 y1 y2 y3 y4 y5 HV
      have HBV : Hid (Below X.heap.size X V) := HBw.out.trans (HbV.out.mono HBw.out.size)
      go_cut [58] (fun c wx => ∃ b : Bool, c = .bool b ∧ wx = V)
      case first =>
        by_cases hj : t < nj
        · have hj2 : (t : Int) < (nj : Int) := by omega
          have hj3 : (t : Int) < (cj : Int) := by omega
          obtain ⟨jv, hjv⟩ : ∃ v, js[t]? = some v := ⟨_, List.getElem?_eq_getElem (by have := Hnj.out; omega)⟩
          obtain ⟨a', c', e1, -, -, e4⟩ := HJs.out V HBV.out
          cases e1
          rcases e4 with z | ⟨b, off, rfl, hc⟩
          · rw [z] at hjv; cases hjv
          · have g1 := hc t jv hjv
            clear hc hjv
            go_wp2_with fail
            go_meet
            exact ⟨_, rfl, rfl⟩
        · have hj2 : ¬ (t : Int) < (nj : Int) := by omega
          go_wp2_with fail
          go_meet
          exact ⟨_, rfl, rfl⟩
      case rest =>
      obtain ⟨b, rfl, rfl⟩ := hcut
      have HTV : Hid (Tw X (.agg #[.slice fa1 fs1.length fc1, .int .i64 k1, .bool m1, .int .i64 l1, .int .i64 t1, .int .i64 n1]) (.agg #[.slice fa2 fs2.length fc2, .int .i64 k2, .bool m2, .int .i64 l2, .int .i64 t2, .int .i64 n2]) (fun Z => RdF Z (.slice fa1 fs1.length fc1) fs1) (fun Z => RdF Z (.slice fa2 fs2.length fc2) fs2) pp qq wc t) := HTw.out.later HbV.out (Nat.le_refl _)
      have g1 := (HCells.out wc HBV.out).2.1
      cases b with
      | false =>
        have HKV : Hid (∀ Z, Below wc.heap.size wc Z → (Z.cell? ⟨kb, 0, none⟩ = some (.slice fa1 fs1.length fc1) ∧ Z.cell? ⟨kb, 1, none⟩ = some (.int .i64 k1) ∧ Z.cell? ⟨kb, 2, none⟩ = some (.bool m1) ∧ Z.cell? ⟨kb, 3, none⟩ = some (.int .i64 l1) ∧ Z.cell? ⟨kb, 4, none⟩ = some (.int .i64 t1) ∧ Z.cell? ⟨kb, 5, none⟩ = some (.int .i64 n1)) ∧ (Z.cell? ⟨bL, oL + t * 7, none⟩ = some x.vr ∧ Z.cell? ⟨bL, oL + t * 7 + 1, none⟩ = some (.int .i64 x.fam) ∧ Z.cell? ⟨bL, oL + t * 7 + 2, none⟩ = some x.vq ∧ Z.cell? ⟨bL, oL + t * 7 + 3, none⟩ = some (.int .i64 x.ts) ∧ Z.cell? ⟨bL, oL + t * 7 + 4, none⟩ = some (.int .i64 x.seq) ∧ Z.cell? ⟨bL, oL + t * 7 + 5, none⟩ = some (.int .i64 x.kind) ∧ Z.cell? ⟨bL, oL + t * 7 + 6, none⟩ = some x.vv)) := fun Z b => ⟨CBx.cells ((b.block kb (Array.getElem?_eq_some_iff.1 HcV.out).1).trans HcV.out), HCells.out Z (HBV.out.trans (b.mono HBV.out.size))⟩
        have HKG : Hid (∀ Z : World, Below X.heap.size X Z → Z.heap[kb]? = wc.heap[kb]? → (Z.cell? ⟨kb, 0, none⟩ = some (.slice fa1 fs1.length fc1) ∧ Z.cell? ⟨kb, 1, none⟩ = some (.int .i64 k1) ∧ Z.cell? ⟨kb, 2, none⟩ = some (.bool m1) ∧ Z.cell? ⟨kb, 3, none⟩ = some (.int .i64 l1) ∧ Z.cell? ⟨kb, 4, none⟩ = some (.int .i64 t1) ∧ Z.cell? ⟨kb, 5, none⟩ = some (.int .i64 n1)) ∧ (Z.cell? ⟨bL, oL + t * 7, none⟩ = some x.vr ∧ Z.cell? ⟨bL, oL + t * 7 + 1, none⟩ = some (.int .i64 x.fam) ∧ Z.cell? ⟨bL, oL + t * 7 + 2, none⟩ = some x.vq ∧ Z.cell? ⟨bL, oL + t * 7 + 3, none⟩ = some (.int .i64 x.ts) ∧ Z.cell? ⟨bL, oL + t * 7 + 4, none⟩ = some (.int .i64 x.seq) ∧ Z.cell? ⟨bL, oL + t * 7 + 5, none⟩ = some (.int .i64 x.kind) ∧ Z.cell? ⟨bL, oL + t * 7 + 6, none⟩ = some x.vv)) := fun Z b h => ⟨CBx.cells (h.trans HcV.out), HCells.out Z b⟩
        obtain ⟨y0, y1, y2, y3, y4, y5⟩ := HcV.out.cells
        cases pp with
        | none =>
          go_wp2
          go_roundw
          case rel => exact ⟨t + 1, by omega, rfl, by go_num, HTV.out.later (Below.refl _ _) (Nat.le_succ _)⟩
          case measure => simp only [intOf]; omega
        | some a =>
          have HRx : Hid (∀ Z, Below X.heap.size X Z → RdF Z (.slice fa1 fs1.length fc1) fs1) := HR1.out
          by_cases hf : x.fam = 100
          · have hfb : (x.fam == 100) = true := by simp [hf]
            have HCe := Lib.hid (Tw.end_ HTV.out HRx.out (by have := HN.out; omega))
            go_wp2_with fail
            refine Calls.mono HCe.out ?_
            rintro r w1 ⟨rfl, tw⟩
            have HT2 := Lib.hid tw
            clear tw HCe
            go_wp2
            go_roundw
            case rel => exact ⟨t + 1, by omega, rfl, by go_num, (HT2.out.later (Below.refl _ _) (Nat.le_succ _))⟩
            case measure => simp only [intOf]; omega
          · have hfb : (x.fam == 100) = false := by simp [hf]
            have DV : Below wc.heap.size wc wc.drew := (Below.refl _ _).drew
            have HCp := Lib.hid (Tw.push (e := x) HTw.out (HbV.out.trans (DV.mono HbV.out.size)) (fun Z b => ⟨HRx.out Z b, HOk.out Z b⟩) HShx.out (by have := HN.out; omega))
            have zF := HKV.out _ DV
            unfold EntD.cells at HCp
            go_upto_region 21 with fail
            clear y0 y1 y2 y3 y4 y5 g1
            go_region_held3 (fun Z => (Z.cell? ⟨kb, 0, none⟩ = some (.slice fa1 fs1.length fc1) ∧ Z.cell? ⟨kb, 1, none⟩ = some (.int .i64 k1) ∧ Z.cell? ⟨kb, 2, none⟩ = some (.bool m1) ∧ Z.cell? ⟨kb, 3, none⟩ = some (.int .i64 l1) ∧ Z.cell? ⟨kb, 4, none⟩ = some (.int .i64 t1) ∧ Z.cell? ⟨kb, 5, none⟩ = some (.int .i64 n1)) ∧ (Z.cell? ⟨bL, oL + t * 7, none⟩ = some x.vr ∧ Z.cell? ⟨bL, oL + t * 7 + 1, none⟩ = some (.int .i64 x.fam) ∧ Z.cell? ⟨bL, oL + t * 7 + 2, none⟩ = some x.vq ∧ Z.cell? ⟨bL, oL + t * 7 + 3, none⟩ = some (.int .i64 x.ts) ∧ Z.cell? ⟨bL, oL + t * 7 + 4, none⟩ = some (.int .i64 x.seq) ∧ Z.cell? ⟨bL, oL + t * 7 + 5, none⟩ = some (.int .i64 x.kind) ∧ Z.cell? ⟨bL, oL + t * 7 + 6, none⟩ = some x.vv)) (first | exact zF | exact zG) ((go_at_call 69; refine Calls.mono HCp.out ?_; rintro r w1 ⟨rfl, tw, kk⟩; have zG := HKG.out w1 tw.below (kk kb (by rw [Hkb.out]; exact Nat.le_refl _) (Array.getElem?_eq_some_iff.1 HcV.out).1)))
            have HT2 := Lib.hid tw
            clear tw kk HCp zF zG
            go_wp2
            go_roundw
            case rel => exact ⟨t + 1, by omega, rfl, by go_num, HT2.out⟩
            case measure => simp only [intOf]; omega
      | true =>
        obtain ⟨V2, hV2, c2V, gV2⟩ := CBx.set6 HcV.out fa2 fs2.length fc2 k2 l2 t2 n2 m2
        obtain ⟨y0, y1, y2, y3, y4, y5⟩ := HcV.out.cells
        have fzk := CBx.fz HcV.out
        obtain ⟨u0, u1, u2, u3, u4, u5⟩ := (Hc2.out wc HBV.out).cells
        go_upto_if 62 with fail
        rw [← hV2]
        clear y0 y1 y2 y3 y4 y5 u0 u1 u2 u3 u4 u5 fzk hV2 g1
        have hb2 : Below wr.heap.size wr V2 := below_of_heap HbV.out HbV.out.size gV2.os gV2.tape gV2.output gV2.size (fun i h1 h2 => gV2.block i h1 (fun z => by have := Option.some.inj z; have := Hkb.out; omega))
        clear HTV HbV HBV
        have HcV1 := Lib.hid c2V
        clear HcV gV2 c2V
        have HcV := HcV1
        have HbV := Lib.hid hb2
        clear hb2
        have HBV : Hid (Below X.heap.size X V2) := HBw.out.trans (HbV.out.mono HBw.out.size)
        have HTV : Hid (Tw X (.agg #[.slice fa1 fs1.length fc1, .int .i64 k1, .bool m1, .int .i64 l1, .int .i64 t1, .int .i64 n1]) (.agg #[.slice fa2 fs2.length fc2, .int .i64 k2, .bool m2, .int .i64 l2, .int .i64 t2, .int .i64 n2]) (fun Z => RdF Z (.slice fa1 fs1.length fc1) fs1) (fun Z => RdF Z (.slice fa2 fs2.length fc2) fs2) pp qq V2 t) := HTw.out.later HbV.out (Nat.le_refl _)
        have g1 := (HCells.out V2 HBV.out).2.1
        have HKV : Hid (∀ Z, Below V2.heap.size V2 Z → (Z.cell? ⟨kb, 0, none⟩ = some (.slice fa2 fs2.length fc2) ∧ Z.cell? ⟨kb, 1, none⟩ = some (.int .i64 k2) ∧ Z.cell? ⟨kb, 2, none⟩ = some (.bool m2) ∧ Z.cell? ⟨kb, 3, none⟩ = some (.int .i64 l2) ∧ Z.cell? ⟨kb, 4, none⟩ = some (.int .i64 t2) ∧ Z.cell? ⟨kb, 5, none⟩ = some (.int .i64 n2)) ∧ (Z.cell? ⟨bL, oL + t * 7, none⟩ = some x.vr ∧ Z.cell? ⟨bL, oL + t * 7 + 1, none⟩ = some (.int .i64 x.fam) ∧ Z.cell? ⟨bL, oL + t * 7 + 2, none⟩ = some x.vq ∧ Z.cell? ⟨bL, oL + t * 7 + 3, none⟩ = some (.int .i64 x.ts) ∧ Z.cell? ⟨bL, oL + t * 7 + 4, none⟩ = some (.int .i64 x.seq) ∧ Z.cell? ⟨bL, oL + t * 7 + 5, none⟩ = some (.int .i64 x.kind) ∧ Z.cell? ⟨bL, oL + t * 7 + 6, none⟩ = some x.vv)) := fun Z b => ⟨CBx.cells ((b.block kb (Array.getElem?_eq_some_iff.1 HcV.out).1).trans HcV.out), HCells.out Z (HBV.out.trans (b.mono HBV.out.size))⟩
        have HKG : Hid (∀ Z : World, Below X.heap.size X Z → Z.heap[kb]? = V2.heap[kb]? → (Z.cell? ⟨kb, 0, none⟩ = some (.slice fa2 fs2.length fc2) ∧ Z.cell? ⟨kb, 1, none⟩ = some (.int .i64 k2) ∧ Z.cell? ⟨kb, 2, none⟩ = some (.bool m2) ∧ Z.cell? ⟨kb, 3, none⟩ = some (.int .i64 l2) ∧ Z.cell? ⟨kb, 4, none⟩ = some (.int .i64 t2) ∧ Z.cell? ⟨kb, 5, none⟩ = some (.int .i64 n2)) ∧ (Z.cell? ⟨bL, oL + t * 7, none⟩ = some x.vr ∧ Z.cell? ⟨bL, oL + t * 7 + 1, none⟩ = some (.int .i64 x.fam) ∧ Z.cell? ⟨bL, oL + t * 7 + 2, none⟩ = some x.vq ∧ Z.cell? ⟨bL, oL + t * 7 + 3, none⟩ = some (.int .i64 x.ts) ∧ Z.cell? ⟨bL, oL + t * 7 + 4, none⟩ = some (.int .i64 x.seq) ∧ Z.cell? ⟨bL, oL + t * 7 + 5, none⟩ = some (.int .i64 x.kind) ∧ Z.cell? ⟨bL, oL + t * 7 + 6, none⟩ = some x.vv)) := fun Z b h => ⟨CBx.cells (h.trans HcV.out), HCells.out Z b⟩
        obtain ⟨y0, y1, y2, y3, y4, y5⟩ := HcV.out.cells
        cases qq with
        | none =>
          go_wp2
          go_roundw
          case rel => exact ⟨t + 1, by omega, rfl, by go_num, HTV.out.later (Below.refl _ _) (Nat.le_succ _)⟩
          case measure => simp only [intOf]; omega
        | some a =>
          have HRx : Hid (∀ Z, Below X.heap.size X Z → RdF Z (.slice fa2 fs2.length fc2) fs2) := HR2.out
          by_cases hf : x.fam = 100
          · have hfb : (x.fam == 100) = true := by simp [hf]
            have HCe := Lib.hid (Tw.end_ HTV.out.swap HRx.out (by have := HN.out; omega))
            go_wp2_with fail
            refine Calls.mono HCe.out ?_
            rintro r w1 ⟨rfl, tw⟩
            have HT2 := Lib.hid tw
            clear tw HCe
            go_wp2
            go_roundw
            case rel => exact ⟨t + 1, by omega, rfl, by go_num, (HT2.out.later (Below.refl _ _) (Nat.le_succ _)).swap⟩
            case measure => simp only [intOf]; omega
          · have hfb : (x.fam == 100) = false := by simp [hf]
            have DV : Below V2.heap.size V2 V2.drew := (Below.refl _ _).drew
            have HCp := Lib.hid (Tw.push (e := x) HTw.out.swap (HbV.out.trans (DV.mono HbV.out.size)) (fun Z b => ⟨HRx.out Z b, HOk.out Z b⟩) HShx.out (by have := HN.out; omega))
            have zF := HKV.out _ DV
            unfold EntD.cells at HCp
            go_upto_region 21 with fail
            clear y0 y1 y2 y3 y4 y5 g1
            go_region_held3 (fun Z => (Z.cell? ⟨kb, 0, none⟩ = some (.slice fa2 fs2.length fc2) ∧ Z.cell? ⟨kb, 1, none⟩ = some (.int .i64 k2) ∧ Z.cell? ⟨kb, 2, none⟩ = some (.bool m2) ∧ Z.cell? ⟨kb, 3, none⟩ = some (.int .i64 l2) ∧ Z.cell? ⟨kb, 4, none⟩ = some (.int .i64 t2) ∧ Z.cell? ⟨kb, 5, none⟩ = some (.int .i64 n2)) ∧ (Z.cell? ⟨bL, oL + t * 7, none⟩ = some x.vr ∧ Z.cell? ⟨bL, oL + t * 7 + 1, none⟩ = some (.int .i64 x.fam) ∧ Z.cell? ⟨bL, oL + t * 7 + 2, none⟩ = some x.vq ∧ Z.cell? ⟨bL, oL + t * 7 + 3, none⟩ = some (.int .i64 x.ts) ∧ Z.cell? ⟨bL, oL + t * 7 + 4, none⟩ = some (.int .i64 x.seq) ∧ Z.cell? ⟨bL, oL + t * 7 + 5, none⟩ = some (.int .i64 x.kind) ∧ Z.cell? ⟨bL, oL + t * 7 + 6, none⟩ = some x.vv)) (first | exact zF | exact zG) ((go_at_call 69; refine Calls.mono HCp.out ?_; rintro r w1 ⟨rfl, tw, kk⟩; have zG := HKG.out w1 tw.swap.below (kk kb (by rw [Hkb.out]; exact Nat.le_refl _) (Array.getElem?_eq_some_iff.1 HcV.out).1)))
            have HT2 := Lib.hid tw
            clear tw kk HCp zF zG
            go_wp2
            go_roundw
            case rel => exact ⟨t + 1, by omega, rfl, by go_num, HT2.out.swap⟩
            case measure => simp only [intOf]; omega
    · have hge : ¬ (t : Int) < (N : Int) := by omega
      have hNb : N ≤ 1353245080300 := HN.out
      obtain rfl : t = N := by omega
      have HTe := HTw
      obtain ⟨y0, y1, y2, y3, y4, y5⟩ := (Hc1.out wr HTe.out.below).cells
      cases pp with
      | none =>
        clear y0 y1 y2 y3 y4 y5
        obtain ⟨y0, y1, y2, y3, y4, y5⟩ := (Hc2.out wr HTe.out.below).cells
        cases qq with
        | none =>
          go_wp2
          go_ret
          exact ⟨rfl, HA.out.trans (HTe.out.below.mono HA.out.size)⟩
        | some a2 =>
          have HCq := Lib.hid (Tw.end_ HTe.out.swap HR2.out HN.out)
          go_wp2_with fail
          refine Calls.mono HCq.out ?_
          rintro r wq ⟨rfl, tw⟩
          have HTq := Lib.hid tw
          clear tw HCq y0 y1 y2 y3 y4 y5
          go_wp2
          go_ret
          exact ⟨rfl, HA.out.trans (HTq.out.below.mono HA.out.size)⟩
      | some a =>
        have HCe := Lib.hid (Tw.end_ HTe.out HR1.out HN.out)
        go_wp2_with fail
        refine Calls.mono HCe.out ?_
        rintro r w1 ⟨rfl, tw⟩
        have HT2 := Lib.hid tw
        clear tw HCe y0 y1 y2 y3 y4 y5
        obtain ⟨y0, y1, y2, y3, y4, y5⟩ := (Hc1.out w1 HT2.out.below).cells
        have HCf := Lib.hid (Tw.end_ HT2.out HR1.out HN.out)
        go_wp2_with fail
        refine Calls.mono HCf.out ?_
        rintro r w2 ⟨rfl, tw⟩
        have HT3 := Lib.hid tw
        clear tw HCf y0 y1 y2 y3 y4 y5
        obtain ⟨y0, y1, y2, y3, y4, y5⟩ := (Hc2.out w2 HT3.out.below).cells
        cases qq with
        | none =>
          go_wp2
          go_ret
          exact ⟨rfl, HA.out.trans (HT3.out.below.mono HA.out.size)⟩
        | some a2 =>
          have HCq := Lib.hid (Tw.end_ HT3.out.swap HR2.out HN.out)
          go_wp2_with fail
          refine Calls.mono HCq.out ?_
          rintro r wq ⟨rfl, tw⟩
          have HTq := Lib.hid tw
          clear tw HCq y0 y1 y2 y3 y4 y5
          go_wp2
          go_ret
          exact ⟨rfl, HA.out.trans (HTq.out.below.mono HA.out.size)⟩

end Go.Proofs.YthhkpkfpifllkaaGreat

namespace Go.Proofs.YthhkpkfpifllkaaGreat
open Go.RowKit
set_option linter.unusedVariables false

set_option maxRecDepth 100000 in
set_option maxHeartbeats 4000000 in
theorem readers_walk {W : World} {fa1 fa2 : Option Addr} {fc1 fc2 : Nat} {fs1 fs2 : List FamD} {k1 l1 t1 n1 k2 l2 t2 n2 : Int} {m1 m2 : Bool} {aL : Option Addr} {cL : Nat} {ls : List EntD} {vj : Value} {js : List Int} (hr1 : RdF W (.slice fa1 fs1.length fc1) fs1) (hn1 : fa1 = none → fc1 = 0) (hr2 : RdF W (.slice fa2 fs2.length fc2) fs2) (hn2 : fa2 = none → fc2 = 0) (hl : RdL3 W aL cL ls) (hlen : ls.length ≤ 1353245080300) (hsh : ∀ x ∈ ls, ShrtW x) (hj : RdJ W vj js) :
    Calls Tryz.prog 9 #[.agg #[.slice fa1 fs1.length fc1, .int .i64 k1, .bool m1, .int .i64 l1, .int .i64 t1, .int .i64 n1], .agg #[.slice fa2 fs2.length fc2, .int .i64 k2, .bool m2, .int .i64 l2, .int .i64 t2, .int .i64 n2], .slice aL ls.length cL, vj] W fun r w' => r = .returned (.bool true) ∧ Below W.heap.size W w' := by
  obtain ⟨C1, hC1⟩ := schema_c fs1
  obtain ⟨C2, hC2⟩ := schema_c fs2
  obtain ⟨X, hX, A, -, cb1, cb2⟩ := two_box W fa1 fa2 fs1.length fc1 fs2.length fc2 k1 l1 t1 n1 k2 l2 t2 n2 m1 m2
  have HC := Lib.hid (streams_any (W := X) (rd := true) (k1 := k1) (l1 := l1) (t1 := t1) (n1 := n1) (k2 := k2) (l2 := l2) (t2 := t2) (n2 := n2) (m1 := m1) (m2 := m2) (hr1.later A) (hr2.later A) (hl.later A) hlen hsh (hj.later A) (fun w B0 hB hr => reader_made hB hr hn1 C1 hC1 k1 l1 t1 n1 m1) (fun w B0 hB hr => reader_made hB hr hn2 C2 hC2 k2 l2 t2 n2 m2))
  have HX := Lib.hid hX
  have HA := Lib.hid A
  have z1 := cb1.cells
  have z2 := cb2.cells
  rw [hX] at z1 z2
  obtain ⟨y0, y1, y2, y3, y4, y5⟩ := z1
  obtain ⟨u0, u1, u2, u3, u4, u5⟩ := z2
  clear hX A cb1 cb2 hr1 hn1 hr2 hn2 hl hlen hsh hj hC1 hC2
  go_enter Tryz.func9, Tryz.ntmps9
  go_wp2_with fail
  rw [← HX.out]
  refine Calls.mono HC.out ?_
  rintro r w1 ⟨rfl, b1⟩
  have HB := Lib.hid b1
  clear b1 HC
  go_wp2
  go_ret
  exact ⟨rfl, HA.out.trans (HB.out.mono HA.out.size)⟩
end Go.Proofs.YthhkpkfpifllkaaGreat
