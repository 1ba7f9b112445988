import Derived.Test.YthhkpkfpifllkaaGreatK25
namespace Go.Proofs.YthhkpkfpifllkaaGreat
open Go.RowKit
set_option linter.unusedVariables false
set_option maxRecDepth 100000 in
set_option maxHeartbeats 16000000 in
theorem pushF_any {B wb g rb q n fc : Nat} {fv : Value} {fa : Option Addr} {fs : List FamD} {clock low t nv : Int} {major : Bool} {T : List En → World → (Nat → Prop) → List Vd → Prop} {OO : List Vd → List En} {wa : List En → List En} {ct : Ct} {V0 : List Vd} {W : World} {P : Nat → Prop} {e : EntD}
    (H : Hands g rb B (.pointer (some ⟨wb, 0, none⟩)) T) (K : Kd (mt fs) clock fs.length OO wa) (hT : ∀ (hd : List En) (W : World) (vs : List Vd), T hd W (fun i => i = rb) vs → hd = OO vs)
    (hW : ∀ (w : World) (a : Option Addr) (cap : Nat) (ls : List EntD), w.cell? ⟨q, 0, none⟩ = some (.pointer (some ⟨rb, 0, none⟩)) → RdF w (.slice fa fs.length fc) fs → RdL3 w a cap ls → ls.length ≤ 1353245080300 → inOrderE (check3S fs.length) ls = 0 → Calls Tryz.prog 98 #[.pointer (some ⟨q, 0, none⟩), .agg #[.slice fa fs.length fc, .int .i64 clock, .bool major, .int .i64 low, .int .i64 t, .int .i64 nv], .slice a ls.length cap] w fun r w' => ∃ (v : Value) (zs : List EntD) (m : List En), r = .returned v ∧ IsOrd fs.length (ls.map EntD.dat) m ∧ Vw w w' zs v (wa m))
    (hfs : ∀ f ∈ fs, 0 ≤ f.tl ∧ f.tl ≤ 1099511627776) (h : Fl B wb g rb q fv fs clock T OO (some ⟨rb, 0, none⟩) none ct V0 W n P) (hin : ∀ Z, SpF W Z P → RdF Z (.slice fa fs.length fc) fs ∧ EntD.Ok Z e) (hsh : ShrtW e) (hn : n + 1 ≤ 1353245080300) :
    Calls Tryz.prog 69 #[.pointer (some ⟨q, 0, none⟩), .agg #[.slice fa fs.length fc, .int .i64 clock, .bool major, .int .i64 low, .int .i64 t, .int .i64 nv], .agg e.cells] W fun r W' => r = .returned (.bool true) ∧ FlTo B wb g rb q fv fs clock T OO (some ⟨rb, 0, none⟩) none ct V0 W W' (n + 1) P := by
  obtain ⟨ins, outs, la, vi, vo, s, us, l, m, Oi, Oo, hF, d, rfl⟩ := h
  obtain ⟨X, hX, A, hXs, cb, eb⟩ := push_box W fa fs.length fc clock low t nv major e
  have FX := hF.later H A
  obtain ⟨ai, ci, evi, hain, rdi⟩ := FX.rin.rdl (fun x hx => (d.szi x hx).1)
  subst evi
  obtain ⟨L1, L2, L3, L4, L5⟩ := d.lens
  have inX := hin X (SpF.of_below _ A)
  have hPl := hF.inlt H
  have HC1 := Lib.hid (clashes_any (fb := q) FX.box.c2 rdi inX.2 (by omega))
  obtain ⟨cN, hcN⟩ : ∃ k, k = W.heap.size := ⟨_, rfl⟩
  obtain ⟨nf, hnf⟩ : ∃ k, k = fs.length := ⟨_, rfl⟩
  have hcN' := hcN.symm
  rw [← hcN] at cb eb hXs
  have HX := Lib.hid hX
  have HA := Lib.hid A
  have HXs := Lib.hid hXs
  have HFX := Lib.hid FX
  have HD := Lib.hid d
  have HIn := Lib.hid hin
  have HPl := Lib.hid hPl
  have HcN := Lib.hid hcN
  have Hcb := Lib.hid cb
  have Heb := Lib.hid eb
  have HSh := Lib.hid hsh
  have HL : Hid ((V0 ++ us).length ≤ n ∧ ins.length ≤ n ∧ n + 1 ≤ 1353245080300) := ⟨L1, L5, hn⟩
  have HRk : Hid (s.rank ≤ ((V0 ++ us).length : Int) ∧ (s.waiting = true → s.begun = true)) := ⟨L2, L3⟩
  have HFs := Lib.hid hfs
  have HRi := Lib.hid (And.intro hain rdi)
  have HWa := Lib.hid hW
  have HT := Lib.hid hT
  have HK := Lib.hid K
  have HH := Lib.hid H
  obtain ⟨x0, x1, x2, x3, x4, x5, x6⟩ := eb.cells7
  unfold EntD.cells at HX HC1 ⊢
  clear hX A hXs cb eb FX rdi hain L1 L2 L3 L4 L5 inX hPl hcN hF d hfs hin hsh hn
  clear hW hT
  go_enter Tryz.func69, Tryz.ntmps69
  go_upto_region 1 with fail
  rw [← HX.out]
  (try rw [hcN'])
  go_wp2_with fail
  refine Calls.mono HC1.out ?_
  rintro r X1 ⟨qc, rfl, hqc, b1⟩
  clear HX HC1
  have HB1 := Lib.hid b1
  clear b1
  cases qc with
  | true =>
    clear hqc
    go_wp2
    go_ret
    have b := HA.out.trans (HB1.out.mono HA.out.size)
    exact ⟨rfl, _, ⟨ins, outs, la, _, vo, s, us, l, m, Oi, Oo, HFX.out.later H HB1.out, HD.out.more, rfl⟩, SpF.of_below _ b, fun i hi => .inl hi⟩

  | false =>
  have HNc := Lib.hid (hqc rfl)
  clear hqc x0 x1 x2 x3 x4 x5 x6
  have hbW1 := HA.out.trans (HB1.out.mono HA.out.size)
  have HOk1 := Lib.hid (HIn.out X1 (SpF.of_below _ hbW1)).2
  obtain ⟨x0, x1, x2, x3, x4, x5, x6⟩ := (Heb.out.later HB1.out).cells7
  obtain ⟨X2, hX2⟩ : ∃ Y, Y = X1.alloc (.cells e.cells 84) := ⟨_, rfl⟩
  have HB2 : Hid (Below X1.heap.size X1 X2) := by unfold Hid; rw [hX2]; exact (Below.refl _ _).alloc (Nat.le_refl _) _
  have HS1 : Hid (∀ x ∈ [e], ShrtW x) := fun x hx => by rw [List.mem_singleton.1 hx]; exact HSh.out
  have HC2 : Hid (Calls Tryz.prog 13 #[.slice (some ⟨X1.heap.size, 0, none⟩) 1 1] X2 fun r W' => ∃ (g : Nat) (ys : List EntD) (us : List Value) (vL vW : Value), r = .returned (.pointer (some ⟨g, 0, none⟩)) ∧ Below X2.heap.size X2 W' ∧ ys.length = 1 ∧ Rm X2.heap.size W' g [e] 1 (ys ++ [endE]) us vL vW) := laid_any (W := X2) (l := [e]) (by rw [hX2]; exact one_rdl HOk1.out) (by simp) HS1.out
  have HX2 := Lib.hid hX2
  unfold EntD.cells at HX2
  clear hX2 hbW1
  go_wp2_with fail
  rw [← HX2.out]
  refine Calls.mono HC2.out ?_
  rintro r X3 ⟨g0, ys, us0, vL, vW, rfl, b3, hyl, hRm⟩
  have HBy : Hid (∀ d ∈ [e].map EntD.dat, ByE d) := fun d hd => by
    rw [List.map_cons, List.map_nil, List.mem_singleton] at hd
    rw [hd]; exact HOk1.out.by
  obtain ⟨gL, cL, rfl, hcL, rL, -, -, gB, gl⟩ := rm_list hRm hyl HBy.out HS1.out
  have hz := rm_zip hRm hyl
  obtain ⟨y, rfl⟩ := List.length_eq_one_iff.1 hyl
  have HYd : Hid (y.dat = e.dat) := by unfold Hid; simpa using hz
  obtain ⟨x', y', u1, u2, u3, p1, p2, -, -, -, p6⟩ := hRm.el 0 (by decide)
  have ex : e = x' := Option.some.inj p1
  have ey : y = y' := Option.some.inj p2
  subst ex ey
  have HRe := Lib.hid p6
  have HRm := Lib.hid hRm
  have HB3 := Lib.hid b3
  have HY7 := Lib.hid (rdl_cells7 rL)
  have HgL : Hid ((X2.heap.size ≤ gL ∧ gL < X3.heap.size) ∧ (X2.heap.size ≤ g0 ∧ g0 < X3.heap.size)) := ⟨⟨gB, gl⟩, hRm.gB, hRm.box.tyd.lt⟩
  have HR0 := Lib.hid hRm.box.c0
  have HBx3 : Hid (Below X.heap.size X X3) := (HB1.out.trans (HB2.out.mono HB1.out.size)).trans (HB3.out.mono (Nat.le_trans HB1.out.size HB2.out.size))
  have HSz : Hid (cN + 2 ≤ X2.heap.size ∧ X2.heap.size ≤ X3.heap.size) := ⟨by have := HXs.out; have := HB1.out.size; have := HB2.out.size; omega, HB3.out.size⟩
  clear HX2 HC2 x0 x1 x2 x3 x4 x5 x6 b3 hyl hRm hz p1 p2 p6 rL gB gl hcL
  have HF3 := Lib.hid (HFX.out.later H (HBx3.out.trans ((Below.refl _ X3).drew.mono HBx3.out.size)))
  have HNo : Hid (∀ i, FlP q wb rb fv s la Oi Oo i → i < X2.heap.size) := fun i hi => by have := (HPl.out i hi).2; have := HSz.out.1; have := HcN.out; omega
  have HC3 : Hid (Calls Tryz.prog 34 #[.pointer (some ⟨rb, 0, none⟩), .agg y.cells] X3.drew fun r W' => ∃ xs a c Or s', r = .returned (.tuple #[.slice a xs.length c, .int .i64 (pushE fs.length s y)]) ∧ Step B wb g rb B fv fs clock T (OO (V0 ++ us)) X3.drew W' s s' (.slice a xs.length c) xs Or (V0 ++ us ++ (pushS fs.length (mt fs) clock s y).1) ∧ s'.dat = (pushS fs.length (mt fs) clock s y).2) := by
    refine fPush_any H HF3.out.rest (fun Z hZ => ?_) (by have := HL.out; omega) HFs.out HRk.out.1 HRk.out.2
    refine (HRe.out.far (w' := Z) (fun i h1 h2 => hZ.2 i h2 (fun z => ?_) (fun z => ?_) (fun z => ?_))).ok HOk1.out.by HSh.out
    · have := HNo.out wb (.inr (.inl (.inl rfl))); omega
    · have := HNo.out rb (.inr (.inl (.inr (.inl rfl)))); omega
    · have := HNo.out i (.inr (.inl (.inr (.inr (.inl z))))); omega
  have HK3 : Hid (∀ Z : World, Z.heap[q]? = X3.heap[q]? → Z.heap[g0]? = X3.heap[g0]? → Z.heap[gL]? = X3.heap[gL]? → Z.cell? ⟨q, 0, none⟩ = some (.pointer (some ⟨rb, 0, none⟩)) ∧ Z.cell? ⟨g0, 0, none⟩ = some (.slice (some ⟨gL, 0, none⟩) 2 cL) ∧ (Z.cell? ⟨gL, 0, none⟩ = some y.vr ∧ Z.cell? ⟨gL, 1, none⟩ = some (.int .i64 y.fam) ∧ Z.cell? ⟨gL, 2, none⟩ = some y.vq ∧ Z.cell? ⟨gL, 3, none⟩ = some (.int .i64 y.ts) ∧ Z.cell? ⟨gL, 4, none⟩ = some (.int .i64 y.seq) ∧ Z.cell? ⟨gL, 5, none⟩ = some (.int .i64 y.kind) ∧ Z.cell? ⟨gL, 6, none⟩ = some y.vv)) := fun Z h1 h2 h3 => by
    rw [cell_heap h1, cell_heap h2, cell_heap h3, cell_heap h3, cell_heap h3, cell_heap h3, cell_heap h3, cell_heap h3, cell_heap h3]
    exact ⟨(HF3.out.box : FlBx X3 q (some ⟨rb, 0, none⟩) none _ _ _ _ _).c0, HR0.out, HY7.out⟩
  obtain ⟨z1, z2, z3⟩ := HK3.out X3.drew rfl rfl rfl
  have c0 : X3.cell? ⟨q, 0, none⟩ = some (.pointer (some ⟨rb, 0, none⟩)) := (HF3.out.box : FlBx X3 q (some ⟨rb, 0, none⟩) none _ _ _ _ _).c0
  obtain ⟨E, hE⟩ : ∃ E, E = pushE fs.length s y := ⟨_, rfl⟩
  rw [← hE] at HC3
  have HE := Lib.hid hE
  clear hE
  unfold EntD.cells at HC3
  go_upto_region 7 with fail
  go_region_held3 (fun Z => Z.cell? ⟨q, 0, none⟩ = some (.pointer (some ⟨rb, 0, none⟩)) ∧ Z.cell? ⟨g0, 0, none⟩ = some (.slice (some ⟨gL, 0, none⟩) 2 cL) ∧ (Z.cell? ⟨gL, 0, none⟩ = some y.vr ∧ Z.cell? ⟨gL, 1, none⟩ = some (.int .i64 y.fam) ∧ Z.cell? ⟨gL, 2, none⟩ = some y.vq ∧ Z.cell? ⟨gL, 3, none⟩ = some (.int .i64 y.ts) ∧ Z.cell? ⟨gL, 4, none⟩ = some (.int .i64 y.seq) ∧ Z.cell? ⟨gL, 5, none⟩ = some (.int .i64 y.kind) ∧ Z.cell? ⟨gL, 6, none⟩ = some y.vv)) (first | exact ⟨z1, z2, z3⟩ | exact z4) ((go_at_call 34; refine Calls.mono HC3.out ?_; rintro r X4 ⟨xs, al, cl, Or, s', rfl, st, ds⟩; have z4 := HK3.out X4 (st.block q HF3.out.box.lt HF3.out.aq.1) (st.block g0 HgL.out.2.2 (fun z => by have := HNo.out g0 (.inr (.inl z)); have := HgL.out.2.1; omega)) (st.block gL HgL.out.1.2 (fun z => by have := HNo.out gL (.inr (.inl z)); have := HgL.out.1.1; omega))))
  have HSt := Lib.hid st
  have HDs := Lib.hid ds
  clear st ds z1 z2 z3 z4 c0 HC3 HK3
  have HF4 := Lib.hid (HF3.out.step H HSt.out)
  have HT4 : Hid (OO (V0 ++ us) ++ xs.map EntD.dat = OO (V0 ++ us ++ (pushS fs.length (mt fs) clock s y).1)) := HT.out _ _ _ HF4.out.rest.wk.tell
  have HSp4 : Hid (SpF W X4 (FlP q wb rb fv s la Oi Oo)) := by
    have b3 := HA.out.trans (HBx3.out.mono HA.out.size)
    have k : SpF X3.drew X4 (Its wb rb fv s) := ⟨HSt.out.os, HSt.out.tape, HSt.out.output, HSt.out.size, HSt.out.block⟩
    exact SpF.then (X := X3.drew) (SpF.of_below _ (b3.trans ((Below.refl _ X3).drew.mono b3.size))) k (fun i _ z => .inr (.inl z))
  have HnC : Hid (∀ i, cN ≤ i → ¬ FlP q wb rb fv s la Oi Oo i) := fun i h1 h2 => by have := (HPl.out i h2).2; have := HcN.out; omega
  have HbX : Hid (∀ i, i < X.heap.size → ¬ FlP q wb rb fv s la Oi Oo i → X4.heap[i]? = X.heap[i]?) := fun i h1 h2 => (HSt.out.block i (Nat.lt_of_lt_of_le h1 HBx3.out.size) (fun z => h2 (.inr (.inl z)))).trans (HBx3.out.block i h1)
  have Hcb4 : Hid (CBx X4 cN fa fs.length fc clock major low t nv) := (HbX.out cN (by have := HXs.out; omega) (HnC.out cN (Nat.le_refl _))).trans Hcb.out
  have Heb4 : Hid (EBox X4 (cN + 1) e) := (HbX.out (cN + 1) (by have := HXs.out; omega) (HnC.out (cN + 1) (Nat.le_succ _))).trans Heb.out
  have HK4 : Hid (∀ Z, Below X4.heap.size X4 Z → Z.cell? ⟨cN, 0, none⟩ = some (.slice fa fs.length fc) ∧ (Z.cell? ⟨q, 4, none⟩ = some la.vr ∧ Z.cell? ⟨q, 5, none⟩ = some (.int .i64 la.fam) ∧ Z.cell? ⟨q, 6, none⟩ = some la.vq ∧ Z.cell? ⟨q, 7, none⟩ = some (.int .i64 la.ts) ∧ Z.cell? ⟨q, 8, none⟩ = some (.int .i64 la.seq) ∧ Z.cell? ⟨q, 9, none⟩ = some (.int .i64 la.kind) ∧ Z.cell? ⟨q, 10, none⟩ = some la.vv) ∧ Z.cell? ⟨q, 11, none⟩ = some (.bool s.begun) ∧ (Z.cell? ⟨cN + 1, 0, none⟩ = some e.vr ∧ Z.cell? ⟨cN + 1, 1, none⟩ = some (.int .i64 e.fam) ∧ Z.cell? ⟨cN + 1, 2, none⟩ = some e.vq ∧ Z.cell? ⟨cN + 1, 3, none⟩ = some (.int .i64 e.ts) ∧ Z.cell? ⟨cN + 1, 4, none⟩ = some (.int .i64 e.seq) ∧ Z.cell? ⟨cN + 1, 5, none⟩ = some (.int .i64 e.kind) ∧ Z.cell? ⟨cN + 1, 6, none⟩ = some e.vv)) := fun Z b => by
    have bx := HF4.out.box.later b
    exact ⟨(CBx.cells ((b.block cN (Array.getElem?_eq_some_iff.1 Hcb4.out).1).trans Hcb4.out)).1, ⟨bx.c4, bx.c5, bx.c6, bx.c7, bx.c8, bx.c9, bx.c10⟩, bx.c11, (Heb4.out.later b).cells7⟩
  have D4 : Below X4.heap.size X4 X4.drew := (Below.refl _ _).drew
  have HC4 : Hid (Calls Tryz.prog 102 #[.agg #[.slice fa fs.length fc], .agg la.cells, .bool s.begun, .agg e.cells] X4.drew fun r w' => r = .returned (.int .i64 E) ∧ Below X4.heap.size X4 w') := by
    unfold Hid
    rw [HE.out, ← HD.out.pushR HYd.out]
    refine (refPushable_any s.begun ((HF4.out.rla.later D4).okB HD.out.bla.1) (HIn.out _ (SpF.then HSp4.out (SpF.of_below (fun _ => False) D4) (fun i _ z => z.elim))).2).mono ?_
    exact fun r w' k => ⟨k.1, D4.trans (k.2.mono D4.size)⟩
  have z1 := HK4.out _ D4
  unfold EntD.cells at HC4
  clear D4
  go_upto_region 9 with fail
  go_region_held3 (fun Z => Z.cell? ⟨cN, 0, none⟩ = some (.slice fa fs.length fc) ∧ (Z.cell? ⟨q, 4, none⟩ = some la.vr ∧ Z.cell? ⟨q, 5, none⟩ = some (.int .i64 la.fam) ∧ Z.cell? ⟨q, 6, none⟩ = some la.vq ∧ Z.cell? ⟨q, 7, none⟩ = some (.int .i64 la.ts) ∧ Z.cell? ⟨q, 8, none⟩ = some (.int .i64 la.seq) ∧ Z.cell? ⟨q, 9, none⟩ = some (.int .i64 la.kind) ∧ Z.cell? ⟨q, 10, none⟩ = some la.vv) ∧ Z.cell? ⟨q, 11, none⟩ = some (.bool s.begun) ∧ (Z.cell? ⟨cN + 1, 0, none⟩ = some e.vr ∧ Z.cell? ⟨cN + 1, 1, none⟩ = some (.int .i64 e.fam) ∧ Z.cell? ⟨cN + 1, 2, none⟩ = some e.vq ∧ Z.cell? ⟨cN + 1, 3, none⟩ = some (.int .i64 e.ts) ∧ Z.cell? ⟨cN + 1, 4, none⟩ = some (.int .i64 e.seq) ∧ Z.cell? ⟨cN + 1, 5, none⟩ = some (.int .i64 e.kind) ∧ Z.cell? ⟨cN + 1, 6, none⟩ = some e.vv)) (first | exact z1 | exact z2) ((go_at_call 102; refine Calls.mono HC4.out ?_; rintro r X5 ⟨rfl, b5⟩; have z2 := HK4.out _ b5))
  have HB5 := Lib.hid b5
  clear b5 z1 HC4
  obtain ⟨-, -, -, x0, x1, x2, x3, x4, x5, x6⟩ := z2
  obtain ⟨X6, hX6⟩ : ∃ Y, Y = X5.alloc (.cells e.cells 84) := ⟨_, rfl⟩
  have HB6 : Hid (Below X5.heap.size X5 X6) := by unfold Hid; rw [hX6]; exact (Below.refl _ _).alloc (Nat.le_refl _) _
  have HOk5 := Lib.hid (HIn.out X5 (SpF.then HSp4.out (SpF.of_below (fun _ => False) HB5.out) (fun i _ z => z.elim))).2
  have HB46 : Hid (Below X4.heap.size X4 X6) := HB5.out.trans (HB6.out.mono HB5.out.size)
  have HC5 : Hid (Calls Tryz.prog 77 #[.pointer (some ⟨g0, 0, none⟩), .slice (some ⟨X5.heap.size, 0, none⟩) 1 1] X6 fun r w' => r = .returned (.bool true) ∧ Fz X2.heap.size X3.heap.size X6 w') := by
    refine stands_far (W1 := X3) (l := [e]) HRm.out rfl (Nat.le_trans HSt.out.size HB46.out.size) (fun i h1 h2 => ?_) (by rw [hX6]; exact one_rdl HOk5.out) (by simp) HS1.out
    refine (HB46.out.block i (Nat.lt_of_lt_of_le h2 HSt.out.size)).trans (HSt.out.block i h2 (fun z => ?_))
    have := HNo.out i (.inr (.inl z))
    omega
  have HX6 := Lib.hid hX6
  unfold EntD.cells at HX6
  clear hX6
  go_wp2_with fail
  refine Calls.mono (num_sym E _) ?_
  rintro r w' ⟨rfl, rfl⟩
  go_wp2_with fail
  rw [← HX6.out]
  refine Calls.mono HC5.out ?_
  rintro r X7 ⟨rfl, hfz⟩
  have HFz := Lib.hid hfz
  clear hfz HX6 HC5 x0 x1 x2 x3 x4 x5 x6
  have HK7 : Hid (∀ i, i < X4.heap.size → (i < X2.heap.size ∨ X3.heap.size ≤ i) → X7.heap[i]? = X4.heap[i]?) := fun i h1 h2 => (HFz.out.block i (Nat.lt_of_lt_of_le h1 HB46.out.size) h2).trans (HB46.out.block i h1)
  have HP4 : Hid (∀ i, FlP q wb rb fv s' la Oi Oo i → FlP q wb rb fv s la Oi Oo i ∨ X3.heap.size ≤ i) := fun i hi => hi.step (W := X3.drew) HSt.out.its
  have HF7 : Hid (Fm B wb g rb q fv fs clock T (some ⟨rb, 0, none⟩) none X7 ins outs la s.begun ct (.slice ai ins.length ci) vo s' (OO (V0 ++ us) ++ xs.map EntD.dat) (V0 ++ us ++ (pushS fs.length (mt fs) clock s y).1) Oi Oo) :=
    HF4.out.keep H (Nat.le_trans HB46.out.size HFz.out.size) (fun i hi => HK7.out i (HF4.out.inlt H i hi).2 ((HP4.out i hi).imp (HNo.out i) id))
  have HSp7 : Hid (SpF W X7 (FlP q wb rb fv s la Oi Oo)) := by
    refine ⟨?_, ?_, ?_, ?_, fun i h1 h2 => ?_⟩
    · exact HFz.out.os.trans (HB46.out.os.trans HSp4.out.os)
    · exact HFz.out.tape.trans (HB46.out.tape.trans HSp4.out.tape)
    · exact HFz.out.output.trans (HB46.out.output.trans HSp4.out.output)
    · exact Nat.le_trans HSp4.out.size (Nat.le_trans HB46.out.size HFz.out.size)
    · exact (HK7.out i (Nat.lt_of_lt_of_le h1 HSp4.out.size) (.inl (by have := HSz.out.1; have := HcN.out; omega))).trans (HSp4.out.block i h1 h2)
  by_cases hE0 : E = 0
  · subst hE0
    obtain ⟨Q1, Q2, Q3, Q4, Q5, Q6⟩ := HD.out.pushed K HYd.out HOk1.out.by HNc.out HE.out.symm HDs.out HT4.out
    have HQ1 := Lib.hid Q1
    have HQ2 := Lib.hid Q2
    have HQ3 := Lib.hid Q3
    have HQ4 := Lib.hid Q4
    have HQ5 := Lib.hid Q5
    have HQ6 := Lib.hid Q6
    clear Q1 Q2 Q3 Q4 Q5 Q6
    have HLw : Hid (Rw X7 B (.slice al xs.length cl) xs Or) := HSt.out.rw_.keep (fun i hi => HK7.out i (HSt.out.new i hi).2 (.inr (HSt.out.new i hi).1))
    obtain ⟨ao, co, evo, -, -⟩ := HF7.out.rout.rdl (fun x hx => (HD.out.outSz K x hx).1)
    subst evo
    obtain ⟨no, hno⟩ : ∃ k, k = outs.length := ⟨_, rfl⟩
    obtain ⟨ni, hni⟩ : ∃ k, k = ins.length := ⟨_, rfl⟩
    obtain ⟨nl, hnl⟩ : ∃ k, k = xs.length := ⟨_, rfl⟩
    obtain ⟨bg, hbg⟩ : ∃ b, b = s.begun := ⟨_, rfl⟩
    obtain ⟨rq, hrq⟩ : ∃ b, b = decide (la.row = e.row) := ⟨_, rfl⟩
    obtain ⟨bb, hbb⟩ : ∃ b, b = (bg && !rq) := ⟨_, rfl⟩
    have Heb7 : Hid (EBox X7 (cN + 1) e) := (HK7.out (cN + 1) (Array.getElem?_eq_some_iff.1 Heb4.out).1 (.inl (by have := HSz.out.1; omega))).trans Heb4.out
    have Hcb7 : Hid (CBx X7 cN fa fs.length fc clock major low t nv) := (HK7.out cN (Array.getElem?_eq_some_iff.1 Hcb4.out).1 (.inl (by have := HSz.out.1; omega))).trans Hcb4.out
    have HOk7 : Hid (∀ Z, Below X7.heap.size X7 Z → EntD.Ok Z la ∧ RdF Z (.slice fa fs.length fc) fs ∧ EntD.Ok Z e) := fun Z b => ⟨(HF7.out.rla.later b).okB HD.out.bla.1, HIn.out Z (SpF.then HSp7.out (SpF.of_below (fun _ => False) b) (fun i _ z => z.elim))⟩
    have HFm : Hid (∀ Z, Below X7.heap.size X7 Z → Fm B wb g rb q fv fs clock T (some ⟨rb, 0, none⟩) none Z ins outs la bg ct (.slice ai ni ci) (.slice ao no co) s' (OO (V0 ++ us) ++ xs.map EntD.dat) (V0 ++ us ++ (pushS fs.length (mt fs) clock s y).1) Oi Oo) := fun Z b => by rw [hbg, hni, hno]; exact HF7.out.later H b
    have HAr : Hid (∀ Z, Below X7.heap.size X7 Z → Calls Tryz.prog 78 #[la.vr, e.vr] Z fun r w' => r = .returned (.bool rq) ∧ w' = Z) := fun Z b => by rw [hrq]; exact alike_any (HOk7.out Z b).1.1 (HOk7.out Z b).2.2.1
    have HIi : Hid (bg = true → 0 < ni) := fun z => by
      rw [hni]
      rcases HD.out.pu.last with ⟨_, _, _, q⟩ | ⟨_, _, z', _, e2, _, _⟩
      · have h1 : s.begun = false := (show s.dat.begun = false by rw [q]; rfl)
        rw [hbg, h1] at z; cases z
      · have hl : l.length = ins.length := by have := congrArg List.length HD.out.li; simpa using this
        rw [← hl]
        cases hq : l with
        | nil => rw [hq] at e2; cases e2
        | cons a b => exact Nat.succ_pos _
    have HBb := Lib.hid hbb
    have Hbg := Lib.hid hbg
    have Hrq := Lib.hid hrq
    have Hni := Lib.hid hni
    have Hno := Lib.hid hno
    have Hnl := Lib.hid hnl
    rw [← hnl] at HLw
    have HLr : Hid (∀ Z : World, (∀ i, Or i → Z.heap[i]? = X7.heap[i]?) → RdL3 Z al cl xs) := fun Z k => by
      obtain ⟨a, c, e1, -, r⟩ := (HLw.out.keep k).rdl (fun x hx => (HQ1.out x hx).1)
      rw [Hnl.out] at e1
      cases e1
      exact r
    have HOr : Hid (∀ i, Or i → i < X7.heap.size ∧ ¬ FlP q wb rb fv s' la Oi Oo i) := fun i hi => ⟨Nat.lt_of_lt_of_le (HSt.out.new i hi).2 (Nat.le_trans HB46.out.size HFz.out.size), fun z => by
      rcases z with z | z | z | z | z
      · have := HNo.out i (.inl z); have := (HSt.out.new i hi).1; have := HSz.out.2; have : X3.drew.heap.size = X3.heap.size := rfl; omega
      · exact HSt.out.ap i hi z
      · have := HNo.out i (.inr (.inr (.inl z))); have := (HSt.out.new i hi).1; have := HSz.out.2; have : X3.drew.heap.size = X3.heap.size := rfl; omega
      · have := HNo.out i (.inr (.inr (.inr (.inl z)))); have := (HSt.out.new i hi).1; have := HSz.out.2; have : X3.drew.heap.size = X3.heap.size := rfl; omega
      · have := HNo.out i (.inr (.inr (.inr (.inr z)))); have := (HSt.out.new i hi).1; have := HSz.out.2; have : X3.drew.heap.size = X3.heap.size := rfl; omega⟩
    have HP7 : Hid (∀ i, FlP q wb rb fv s' la Oi Oo i → i < X7.heap.size) := fun i hi => (HF7.out.inlt H i hi).2
    rw [← hnl]
    have f7 := HFm.out X7 (Below.refl _ _)
    have y2 := f7.box.c2
    have y4 := f7.box.c4
    have y11 := f7.box.c11
    have x0 := Heb7.out.cells7.1
    clear hno hni hnl hbg hrq hbb f7
    clear HF4 HF7 HF3 HFX HK4 HRe HRm HY7 HR0
    go_upto_region 14 with fail
    go_cut [101] (fun c wx => c = .bool bb ∧ Hid (Below X7.heap.size X7 wx))
    case first =>
      have hbb := HBb.out
      clear HBb
      cases bg with
      | false =>
        subst hbb
        go_quiet (fail)
        go_wp2_with fail
        go_meet
        exact ⟨rfl, below_dn (Below.refl _ _) _⟩
      | true =>
        have Hn0 := Lib.hid (HIi.out rfl)
        have h0 : (0 : Int) < (ni : Int) := by have := Hn0.out; omega
        have h0d : decide ((0 : Int) < (ni : Int)) = true := decide_eq_true h0
        cases rq with
        | true =>
          subst hbb
          go_quiet (first | (go_at_call 78; with_reducible exact Calls.quiet_of_same (HAr.out _ (below_dn (Below.refl _ _) _))) | (go_at_call 78; with_reducible exact Calls.quiet_of_same (HAr.out _ (Below.refl _ _).drew)))
          go_wp2_with fail
          go_meet
          exact ⟨rfl, below_dn (Below.refl _ _) _⟩
        | false =>
          subst hbb
          go_quiet (first | (go_at_call 78; with_reducible exact Calls.quiet_of_same (HAr.out _ (below_dn (Below.refl _ _) _))) | (go_at_call 78; with_reducible exact Calls.quiet_of_same (HAr.out _ (Below.refl _ _).drew)))
          go_wp2_with fail
          go_meet
          exact ⟨congrArg Value.bool (decide_eq_true Hn0.out), below_dn (Below.refl _ _) _⟩
    case rest =>
    obtain ⟨rfl, HB8⟩ := hcut
    obtain ⟨X8, hX8⟩ : ∃ Y, Y = wc := ⟨_, rfl⟩
    subst hX8
    clear y2 y4 y11 x0 HAr
    have HF8 : Hid (∀ Z, Below X8.heap.size X8 Z → Fm B wb g rb q fv fs clock T (some ⟨rb, 0, none⟩) none Z ins outs la bg ct (.slice ai ni ci) (.slice ao no co) s' (OO (V0 ++ us) ++ xs.map EntD.dat) (V0 ++ us ++ (pushS fs.length (mt fs) clock s y).1) Oi Oo) := fun Z b => HFm.out Z (HB8.out.trans (b.mono HB8.out.size))
    have HClA : Hid (∀ Z, Below X7.heap.size X7 Z → Calls Tryz.prog 14 #[.slice al nl cl] Z fun r W' => ∃ v zs, r = .returned v ∧ Cl Z W' zs v ∧ zs.map EntD.dat = xs.map EntD.dat) := fun Z b => by
      rw [Hnl.out]
      refine cloneAll_any (HLr.out Z (fun i hi => b.block i (HOr.out i hi).1)) (fun x hx => ?_) (by have := HQ6.out; have := HL.out; omega)
      have := HQ1.out x hx
      exact ⟨Nat.le_trans this.2.1 (by decide), Nat.le_trans this.2.2.1 (by decide), Nat.le_trans this.2.2.2 (by decide)⟩
    have HLen : Hid (∀ zs : List EntD, zs.map EntD.dat = xs.map EntD.dat → outs.length + zs.length ≤ 1353245080300) := fun zs hz => by
      have h1 : zs.length = xs.length := by have := congrArg List.length hz; simpa using this
      have := HQ6.out; have := HL.out
      omega
    have HB07 : Hid (B ≤ X7.heap.size) := Nat.le_trans (HPl.out q (.inl rfl)).1 (Nat.le_of_lt (HP7.out q (.inl rfl)))
    go_upto_if 101 with fail
    go_cut [11] (fun a11 wx => ∃ (vo2 : Value) (zs : List EntD) (Oo2 : Nat → Prop), Hid (Fm B wb g rb q fv fs clock T (some ⟨rb, 0, none⟩) none wx ins (outs ++ zs) la bg ct (.slice ai ni ci) vo2 s' (OO (V0 ++ us) ++ xs.map EntD.dat) (V0 ++ us ++ (pushS fs.length (mt fs) clock s y).1) Oi Oo2 ∧ zs.map EntD.dat = xs.map EntD.dat ∧ SpF X7 wx (FlP q wb rb fv s' la Oi Oo) ∧ ∀ i, Oo2 i → Oo i ∨ X7.heap.size ≤ i))
    case first =>
      cases bb with
      | true =>
        have D8 : Below X8.heap.size X8 X8.drew := (Below.refl _ _).drew
        have HK8 : Hid (∀ Z, Below X8.heap.size X8 Z → (Z.cell? ⟨cN, 0, none⟩ = some (.slice fa fs.length fc) ∧ Z.cell? ⟨cN, 1, none⟩ = some (.int .i64 clock) ∧ Z.cell? ⟨cN, 2, none⟩ = some (.bool major) ∧ Z.cell? ⟨cN, 3, none⟩ = some (.int .i64 low) ∧ Z.cell? ⟨cN, 4, none⟩ = some (.int .i64 t) ∧ Z.cell? ⟨cN, 5, none⟩ = some (.int .i64 nv)) ∧ Z.cell? ⟨q, 2, none⟩ = some (.slice ai ni ci)) := fun Z b => ⟨CBx.cells (((HB8.out.trans (b.mono HB8.out.size)).block cN (Array.getElem?_eq_some_iff.1 Hcb7.out).1).trans Hcb7.out), (HF8.out Z b).box.c2⟩
        have HCw : Hid (Calls Tryz.prog 98 #[.pointer (some ⟨q, 0, none⟩), .agg #[.slice fa fs.length fc, .int .i64 clock, .bool major, .int .i64 low, .int .i64 t, .int .i64 nv], .slice ai ni ci] X8.drew fun r w' => ∃ (v : Value) (zs : List EntD) (m : List En), r = .returned v ∧ IsOrd fs.length (ins.map EntD.dat) m ∧ Vw X8.drew w' zs v (wa m)) := by
          have f8 := HF8.out _ D8
          obtain ⟨a, c, e1, -, r⟩ := f8.rin.rdl (fun x hx => (HD.out.szi x hx).1)
          have hni := Hni.out
          subst hni
          cases e1
          exact HWa.out _ _ _ _ f8.box.c0 (HOk7.out _ (HB8.out.trans (D8.mono HB8.out.size))).2.1 r (by have := HL.out; omega) HD.out.inOrd
        have z1 := HK8.out _ D8
        go_upto_region 15 with fail
        go_region_held3 (fun Z => (Z.cell? ⟨cN, 0, none⟩ = some (.slice fa fs.length fc) ∧ Z.cell? ⟨cN, 1, none⟩ = some (.int .i64 clock) ∧ Z.cell? ⟨cN, 2, none⟩ = some (.bool major) ∧ Z.cell? ⟨cN, 3, none⟩ = some (.int .i64 low) ∧ Z.cell? ⟨cN, 4, none⟩ = some (.int .i64 t) ∧ Z.cell? ⟨cN, 5, none⟩ = some (.int .i64 nv)) ∧ Z.cell? ⟨q, 2, none⟩ = some (.slice ai ni ci)) (first | exact z1 | exact z2) ((go_at_call 98; refine Calls.mono HCw.out ?_; rintro r X9 ⟨va, za, m', rfl, hio, hvw⟩; have b9 : Below X8.heap.size X8 X9 := D8.trans (hvw.below.mono D8.size); have z2 := HK8.out X9 b9; obtain ⟨aa, ca, ea⟩ := hvw.form; subst ea))
        have HIo := Lib.hid hio
        have HVw := Lib.hid hvw
        have HB9 := Lib.hid b9
        clear z1 z2 hio hvw b9 D8 HCw HK8
        have HB79 : Hid (Below X7.heap.size X7 X9) := HB8.out.trans (HB9.out.mono HB8.out.size)
        have HFY : Hid (∀ Z, Below X9.heap.size X9 Z → Fm B wb g rb q fv fs clock T (some ⟨rb, 0, none⟩) none Z ins outs la bg ct (.slice ai ni ci) (.slice ao no co) s' (OO (V0 ++ us) ++ xs.map EntD.dat) (V0 ++ us ++ (pushS fs.length (mt fs) clock s y).1) Oi Oo) := fun Z b => HFm.out Z (HB79.out.trans (b.mono HB79.out.size))
        have HYO : Hid (∀ Z, Below X9.heap.size X9 Z → Z.cell? ⟨q, 3, none⟩ = some (.slice ao no co)) := fun Z b => (HFY.out Z b).box.c3
        have HCl : Hid (∀ Z, Below X9.heap.size X9 Z → Calls Tryz.prog 14 #[.slice al nl cl] Z fun r W' => ∃ v zs, r = .returned v ∧ Cl Z W' zs v ∧ zs.map EntD.dat = xs.map EntD.dat) := fun Z b => HClA.out Z (HB79.out.trans (b.mono HB79.out.size))
        have HB0 : Hid (B ≤ X9.heap.size) := Nat.le_trans HB07.out HB79.out.size
        go_upto_region 16 with fail
        have D0 : Below X9.heap.size X9 X9.drew := (Below.refl _ _).drew
        have hS := HYO.out _ D0
        refine wp_region_noPanic ?_
        refine wp_region_anyE (S := fun Z => Z.cell? ⟨q, 3, none⟩ = some (.slice ao no co)) (E := fun j => decide (j < 10)) (by kernel_rfl) ?_
        refine anyE_gen (fun A0 hA0 => ?_)
        have s0 : A0.tmps.size = 157 := by rw [hA0]; rfl
        have v0_0 : Tv A0 0 (.pointer (some ⟨q, 0, none⟩)) := by rw [hA0]; rfl
        have v0_8 : Tv A0 8 ((.slice al nl cl)) := by rw [hA0]; rfl
        refine AnyE.tk (i := 0) (.pointer (some ⟨q, 0, none⟩)) rfl (by kernel_rfl) (fun _ _ _ h => h) (by rfl) (fun wq hq => op_move v0_0) hS ?_
        refine anyE_gen (fun A1 hA1 => ?_)
        have s1 := tz hA1 s0
        have v1_0 := tn hA1 (by decide) v0_0
        have v1_8 := tn hA1 (by decide) v0_8
        have v1_109 := te hA1 s0 (by decide)
        refine AnyE.tk (i := 1) (.pointer (some ⟨q, 0, none⟩)) rfl (by kernel_rfl) (fun _ _ _ h => h) (by rfl) (fun wq hq => op_move v1_0) hS ?_
        refine anyE_gen (fun A2 hA2 => ?_)
        have s2 := tz hA2 s1
        have v2_8 := tn hA2 (by decide) v1_8
        have v2_109 := tn hA2 (by decide) v1_109
        have v2_110 := te hA2 s1 (by decide)
        refine AnyE.tk (i := 2) (.pointer (some ⟨q, 0, none⟩)) rfl (by kernel_rfl) (fun _ _ _ h => h) (by rfl) (fun wq hq => op_nil v2_110) hS ?_
        refine anyE_gen (fun A3 hA3 => ?_)
        have s3 := tz hA3 s2
        have v3_8 := tn hA3 (by decide) v2_8
        have v3_109 := tn hA3 (by decide) v2_109
        have v3_111 := te hA3 s2 (by decide)
        refine AnyE.tk (i := 3) (.pointer (some ⟨q, 3, none⟩)) rfl (by kernel_rfl) (fun _ _ _ h => h) (by rfl) (fun wq hq => op_fieldO v3_111) hS ?_
        refine anyE_gen (fun A4 hA4 => ?_)
        have s4 := tz hA4 s3
        have v4_8 := tn hA4 (by decide) v3_8
        have v4_109 := tn hA4 (by decide) v3_109
        have v4_112 := te hA4 s3 (by decide)
        refine AnyE.tk (i := 4) (.slice ao no co) rfl (by kernel_rfl) (fun _ _ _ h => h) (by rfl) (fun wq hq => op_loadLi v4_112 hq) hS ?_
        refine anyE_gen (fun A5 hA5 => ?_)
        have s5 := tz hA5 s4
        have v5_8 := tn hA5 (by decide) v4_8
        have v5_109 := tn hA5 (by decide) v4_109
        have v5_113 := te hA5 s4 (by decide)
        refine AnyE.tk (i := 5) (.slice al nl cl) rfl (by kernel_rfl) (fun _ _ _ h => h) (by rfl) (fun wq hq => op_move v5_8) hS ?_
        refine anyE_gen (fun A6 hA6 => ?_)
        have s6 := tz hA6 s5
        have v6_109 := tn hA6 (by decide) v5_109
        have v6_113 := tn hA6 (by decide) v5_113
        have v6_114 := te hA6 s5 (by decide)
        refine AnyE.one (i := 6) rfl (by kernel_rfl) (by rfl) (fun K6 hK6 => ?_)
        refine wp_cloneAllA v6_114 (HCl.out _ D0) ?_
        rintro r1 w1 ⟨u1, zs, rfl, hcl, hzd⟩
        have D1 := D0.trans (hcl.below.mono D0.size)
        refine ⟨u1, rfl, hK6.out _ _ ⟨fun _ => HYO.out _ D1, ?_⟩⟩
        clear hK6
        refine anyE_gen (fun A7 hA7 => ?_)
        have s7 := tz hA7 s6
        have v7_109 := tn hA7 (by decide) v6_109
        have v7_113 := tn hA7 (by decide) v6_113
        have v7_115 := te hA7 s6 (by decide)
        refine AnyE.one (i := 7) rfl (by kernel_rfl) (by rfl) (fun K7 hK7 => ?_)
        have F1 := HFY.out _ D1
        refine wp_append_ents (xs := outs) (ys := zs) (.tmp 113) (.tmp 115) rfl (ev_tmp v7_113) F1.rout.row (ev_tmp v7_115) hcl.row hcl.ents (by have := HLen.out zs hzd; omega) (Nat.le_trans HB0.out D1.size) ?_
        intro a2 n2 c2 w2 en hr2 g2 lo2
        have bx2 : FlBx w2 q (some ⟨rb, 0, none⟩) none _ _ _ _ _ := F1.box.keep (g2.block q F1.box.lt (fun z => F1.aq.2.2.1 (F1.rout.rowO q z.symm)))
        refine hK7.out _ _ ⟨fun _ => bx2.c3, ?_⟩
        clear hK7
        refine anyE_gen (fun A8 hA8 => ?_)
        have s8 := tz hA8 s7
        have v8_109 := tn hA8 (by decide) v7_109
        have v8_116 := te hA8 s7 (by decide)
        refine AnyE.one (i := 8) rfl (by kernel_rfl) (by rfl) (fun K8 hK8 => ?_)
        refine wp_nil0 v8_109 ?_
        refine hK8.out _ _ ⟨fun _ => bx2.c3, ?_⟩
        clear hK8
        refine anyE_gen (fun A9 hA9 => ?_)
        have s9 := tz hA9 s8
        have v9_116 := tn hA9 (by decide) v8_116
        have v9_117 := te hA9 s8 (by decide)
        refine AnyE.one (i := 9) rfl (by kernel_rfl) (by rfl) (fun K9 hK9 => ?_)
        refine wp_fieldO v9_117 ?_
        refine hK9.out _ _ ⟨fun _ => bx2.c3, ?_⟩
        clear hK9
        refine anyE_gen (fun A10 hA10 => ?_)
        have s10 := tz hA10 s9
        have v10_116 := tn hA10 (by decide) v9_116
        have v10_118 := te hA10 s9 (by decide)
        refine AnyE.one (i := 10) rfl (by kernel_rfl) (by rfl) (fun K10 hK10 => ?_)
        refine wp_storeLi bx2.c3 (bx2.fz 3) v10_118 v10_116 ?_
        refine hK10.out _ _ ⟨fun h => (by cases h), ?_⟩
        clear hK10
        refine AnyE.done (by kernel_rfl) (NoPanic.normal ?_) _
        clear s0 v0_0 v0_8 s1 v1_0 v1_8 v1_109 s2 v2_8 v2_109 v2_110 s3 v3_8 v3_109 v3_111 s4 v4_8 v4_109 v4_112 s5 v5_8 v5_109 v5_113 s6 v6_109 v6_113 v6_114 s7 v7_109 v7_113 v7_115 s8 v8_109 v8_116 s9 v9_116 v9_117 s10 v10_116 v10_118
        subst hA10 hA9 hA8 hA7 hA6 hA5 hA4 hA3 hA2 hA1 hA0
        have FQ := F1.putOut H (w0 := X9.drew.heap.size) (fun i hi => (HFY.out _ (Below.refl _ _)).inlt H i hi |>.2) hcl.ents hcl.ap hcl.below.size hr2 g2 (fun k hk => (lo2 k hk).imp id (fun z => Nat.le_of_eq z.symm))
        have HEn := Lib.hid en
        have HFQ := Lib.hid FQ
        have HZd := Lib.hid hzd
        have HD1 := Lib.hid D1
        obtain ⟨X9b, hX9b⟩ : ∃ Y, Y = w2.setCell ⟨q, 3, none⟩ (.slice a2 n2 c2) := ⟨_, rfl⟩
        rw [← hX9b] at HFQ ⊢
        have HCb : Hid (Calls Tryz.prog 103 #[.slice aa za.length ca, .slice a2 n2 c2] X9b fun r w' => r = .returned (.bool true) ∧ Below X9b.heap.size X9b w') := by
          have hen := HEn.out
          have hbq := HBb.out
          have hbt := and_of hbq
          obtain ⟨c, hc⟩ := HQ5.out (Hbg.out ▸ hbt.1) (fun z => by have := Hrq.out; rw [hbt.2, decide_eq_true z] at this; cases this)
          have hmm := HIo.out.unique HD.out.isOrd
          have hall : (outs ++ zs).map EntD.dat = za.map EntD.dat ++ c := by rw [List.map_append, HZd.out, hc, HVw.out.dat, hmm]
          have hll : za.length ≤ (outs ++ zs).length := by have := congrArg List.length hall; simp only [List.length_map, List.length_append] at this ⊢; omega
          have hl9 : (outs ++ zs).length ≤ 1353245080300 := by rw [List.length_append]; exact HLen.out zs HZd.out
          obtain ⟨a, cc, e1, -, r⟩ := HFQ.out.1.rout.rdl (fun x hx => by
            rcases List.mem_append.1 hx with z | z
            · exact (HD.out.outSz K x z).1
            · have : x.dat ∈ xs.map EntD.dat := by rw [← HZd.out]; exact List.mem_map_of_mem z
              obtain ⟨y2, h1, h2⟩ := List.mem_map.1 this
              rw [← h2]; exact (HQ1.out y2 h1).1)
          rw [hen] at e1 ⊢
          cases e1
          refine begins_ok (HVw.out.rdk (fun g h1 h2 => ?_)) r ?_ hll (by omega) hl9
          · have g9 : g < X9.heap.size := h2
            refine (HFQ.out.2.block g (Nat.lt_of_lt_of_le g9 HD1.out.size) (fun z => ?_)).trans (HD1.out.block g g9)
            have := HP7.out g z
            have h8 : X8.heap.size ≤ g := h1
            have := HB8.out.size
            omega
          · rw [List.map_take, hall, List.take_left' (by rw [List.length_map])]
        have y3 := HFQ.out.1.box.c3
        clear hX9b en FQ hzd D1 D0 hS hcl F1 hr2 g2 lo2 bx2
        go_wp2_with fail
        refine Calls.mono HCb.out ?_
        rintro r X10 ⟨rfl, b10⟩
        have HB10 := Lib.hid b10
        clear b10 y3 HCb
        go_wp2_with fail
        go_meet
        exact ⟨_, zs, _, ⟨HFQ.out.1.later H HB10.out, HZd.out, SpF.below (SpF.then (SpF.of_below _ (HB79.out.trans (HD1.out.mono HB79.out.size))) HFQ.out.2 (fun i _ z => z)) HB10.out, fun i hi => hi.imp id (fun z => Nat.le_trans HB79.out.size z.1)⟩⟩
      | false =>
        have HYO : Hid (∀ Z, Below X8.heap.size X8 Z → Z.cell? ⟨q, 3, none⟩ = some (.slice ao no co)) := fun Z b => (HF8.out Z b).box.c3
        have HCl : Hid (∀ Z, Below X8.heap.size X8 Z → Calls Tryz.prog 14 #[.slice al nl cl] Z fun r W' => ∃ v zs, r = .returned v ∧ Cl Z W' zs v ∧ zs.map EntD.dat = xs.map EntD.dat) := fun Z b => HClA.out Z (HB8.out.trans (b.mono HB8.out.size))
        have HB0 : Hid (B ≤ X8.heap.size) := Nat.le_trans HB07.out HB8.out.size
        have HFY := HF8
        go_upto_region 19 with fail
        have D0 : Below X8.heap.size X8 X8.drew := (Below.refl _ _).drew
        have hS := HYO.out _ D0
        refine wp_region_noPanic ?_
        refine wp_region_anyE (S := fun Z => Z.cell? ⟨q, 3, none⟩ = some (.slice ao no co)) (E := fun j => decide (j < 10)) (by kernel_rfl) ?_
        refine anyE_gen (fun A0 hA0 => ?_)
        have s0 : A0.tmps.size = 157 := by rw [hA0]; rfl
        have v0_0 : Tv A0 0 (.pointer (some ⟨q, 0, none⟩)) := by rw [hA0]; rfl
        have v0_8 : Tv A0 8 ((.slice al nl cl)) := by rw [hA0]; rfl
        refine AnyE.tk (i := 0) (.pointer (some ⟨q, 0, none⟩)) rfl (by kernel_rfl) (fun _ _ _ h => h) (by rfl) (fun wq hq => op_move v0_0) hS ?_
        refine anyE_gen (fun A1 hA1 => ?_)
        have s1 := tz hA1 s0
        have v1_0 := tn hA1 (by decide) v0_0
        have v1_8 := tn hA1 (by decide) v0_8
        have v1_126 := te hA1 s0 (by decide)
        refine AnyE.tk (i := 1) (.pointer (some ⟨q, 0, none⟩)) rfl (by kernel_rfl) (fun _ _ _ h => h) (by rfl) (fun wq hq => op_move v1_0) hS ?_
        refine anyE_gen (fun A2 hA2 => ?_)
        have s2 := tz hA2 s1
        have v2_8 := tn hA2 (by decide) v1_8
        have v2_126 := tn hA2 (by decide) v1_126
        have v2_127 := te hA2 s1 (by decide)
        refine AnyE.tk (i := 2) (.pointer (some ⟨q, 0, none⟩)) rfl (by kernel_rfl) (fun _ _ _ h => h) (by rfl) (fun wq hq => op_nil v2_127) hS ?_
        refine anyE_gen (fun A3 hA3 => ?_)
        have s3 := tz hA3 s2
        have v3_8 := tn hA3 (by decide) v2_8
        have v3_126 := tn hA3 (by decide) v2_126
        have v3_128 := te hA3 s2 (by decide)
        refine AnyE.tk (i := 3) (.pointer (some ⟨q, 3, none⟩)) rfl (by kernel_rfl) (fun _ _ _ h => h) (by rfl) (fun wq hq => op_fieldO v3_128) hS ?_
        refine anyE_gen (fun A4 hA4 => ?_)
        have s4 := tz hA4 s3
        have v4_8 := tn hA4 (by decide) v3_8
        have v4_126 := tn hA4 (by decide) v3_126
        have v4_129 := te hA4 s3 (by decide)
        refine AnyE.tk (i := 4) (.slice ao no co) rfl (by kernel_rfl) (fun _ _ _ h => h) (by rfl) (fun wq hq => op_loadLi v4_129 hq) hS ?_
        refine anyE_gen (fun A5 hA5 => ?_)
        have s5 := tz hA5 s4
        have v5_8 := tn hA5 (by decide) v4_8
        have v5_126 := tn hA5 (by decide) v4_126
        have v5_130 := te hA5 s4 (by decide)
        refine AnyE.tk (i := 5) (.slice al nl cl) rfl (by kernel_rfl) (fun _ _ _ h => h) (by rfl) (fun wq hq => op_move v5_8) hS ?_
        refine anyE_gen (fun A6 hA6 => ?_)
        have s6 := tz hA6 s5
        have v6_126 := tn hA6 (by decide) v5_126
        have v6_130 := tn hA6 (by decide) v5_130
        have v6_131 := te hA6 s5 (by decide)
        refine AnyE.one (i := 6) rfl (by kernel_rfl) (by rfl) (fun K6 hK6 => ?_)
        refine wp_cloneAllA v6_131 (HCl.out _ D0) ?_
        rintro r1 w1 ⟨u1, zs, rfl, hcl, hzd⟩
        have D1 := D0.trans (hcl.below.mono D0.size)
        refine ⟨u1, rfl, hK6.out _ _ ⟨fun _ => HYO.out _ D1, ?_⟩⟩
        clear hK6
        refine anyE_gen (fun A7 hA7 => ?_)
        have s7 := tz hA7 s6
        have v7_126 := tn hA7 (by decide) v6_126
        have v7_130 := tn hA7 (by decide) v6_130
        have v7_132 := te hA7 s6 (by decide)
        refine AnyE.one (i := 7) rfl (by kernel_rfl) (by rfl) (fun K7 hK7 => ?_)
        have F1 := HFY.out _ D1
        refine wp_append_ents (xs := outs) (ys := zs) (.tmp 130) (.tmp 132) rfl (ev_tmp v7_130) F1.rout.row (ev_tmp v7_132) hcl.row hcl.ents (by have := HLen.out zs hzd; omega) (Nat.le_trans HB0.out D1.size) ?_
        intro a2 n2 c2 w2 en hr2 g2 lo2
        have bx2 : FlBx w2 q (some ⟨rb, 0, none⟩) none _ _ _ _ _ := F1.box.keep (g2.block q F1.box.lt (fun z => F1.aq.2.2.1 (F1.rout.rowO q z.symm)))
        refine hK7.out _ _ ⟨fun _ => bx2.c3, ?_⟩
        clear hK7
        refine anyE_gen (fun A8 hA8 => ?_)
        have s8 := tz hA8 s7
        have v8_126 := tn hA8 (by decide) v7_126
        have v8_133 := te hA8 s7 (by decide)
        refine AnyE.one (i := 8) rfl (by kernel_rfl) (by rfl) (fun K8 hK8 => ?_)
        refine wp_nil0 v8_126 ?_
        refine hK8.out _ _ ⟨fun _ => bx2.c3, ?_⟩
        clear hK8
        refine anyE_gen (fun A9 hA9 => ?_)
        have s9 := tz hA9 s8
        have v9_133 := tn hA9 (by decide) v8_133
        have v9_134 := te hA9 s8 (by decide)
        refine AnyE.one (i := 9) rfl (by kernel_rfl) (by rfl) (fun K9 hK9 => ?_)
        refine wp_fieldO v9_134 ?_
        refine hK9.out _ _ ⟨fun _ => bx2.c3, ?_⟩
        clear hK9
        refine anyE_gen (fun A10 hA10 => ?_)
        have s10 := tz hA10 s9
        have v10_133 := tn hA10 (by decide) v9_133
        have v10_135 := te hA10 s9 (by decide)
        refine AnyE.one (i := 10) rfl (by kernel_rfl) (by rfl) (fun K10 hK10 => ?_)
        refine wp_storeLi bx2.c3 (bx2.fz 3) v10_135 v10_133 ?_
        refine hK10.out _ _ ⟨fun h => (by cases h), ?_⟩
        clear hK10
        refine AnyE.done (by kernel_rfl) (NoPanic.normal ?_) _
        clear s0 v0_0 v0_8 s1 v1_0 v1_8 v1_126 s2 v2_8 v2_126 v2_127 s3 v3_8 v3_126 v3_128 s4 v4_8 v4_126 v4_129 s5 v5_8 v5_126 v5_130 s6 v6_126 v6_130 v6_131 s7 v7_126 v7_130 v7_132 s8 v8_126 v8_133 s9 v9_133 v9_134 s10 v10_133 v10_135
        subst hA10 hA9 hA8 hA7 hA6 hA5 hA4 hA3 hA2 hA1 hA0
        have FQ := F1.putOut H (w0 := X8.drew.heap.size) (fun i hi => (HFY.out _ (Below.refl _ _)).inlt H i hi |>.2) hcl.ents hcl.ap hcl.below.size hr2 g2 (fun k hk => (lo2 k hk).imp id (fun z => Nat.le_of_eq z.symm))
        have HFQ := Lib.hid FQ
        have HZd := Lib.hid hzd
        have HD1 := Lib.hid D1
        obtain ⟨X9b, hX9b⟩ : ∃ Y, Y = w2.setCell ⟨q, 3, none⟩ (.slice a2 n2 c2) := ⟨_, rfl⟩
        rw [← hX9b] at HFQ ⊢
        clear hX9b FQ en hzd D1 D0 hS hcl F1 hr2 g2 lo2 bx2
        go_simp
        go_step
        go_meet
        exact ⟨_, zs, _, ⟨HFQ.out.1, HZd.out, SpF.then (SpF.of_below _ (HB8.out.trans (HD1.out.mono HB8.out.size))) HFQ.out.2 (fun i _ z => z), fun i hi => hi.imp id (fun z => Nat.le_trans HB8.out.size z.1)⟩⟩
    case rest =>
    obtain ⟨vo2, zs, Oo2, HQ⟩ := hcut
    obtain ⟨X11, hX11⟩ : ∃ Y, Y = wc := ⟨_, rfl⟩
    subst hX11
    have HFQ := Lib.hid HQ.out.1
    have HZd := Lib.hid HQ.out.2.1
    have HSp11 := Lib.hid HQ.out.2.2.1
    have HOo := Lib.hid HQ.out.2.2.2
    have HnE : Hid (∀ i, cN ≤ i → i < X2.heap.size → ¬ FlP q wb rb fv s' la Oi Oo i) := fun i h1 h2 h3 => by
      rcases HP4.out i h3 with z | z
      · exact HnC.out i h1 z
      · have := HSz.out.2; omega
    have Heb11 : Hid (EBox X11 (cN + 1) e) := (HSp11.out.block (cN + 1) (Array.getElem?_eq_some_iff.1 Heb7.out).1 (HnE.out (cN + 1) (Nat.le_succ _) (by have := HSz.out.1; omega))).trans Heb7.out
    have HSpW : Hid (SpF W X11 (FlP q wb rb fv s la Oi Oo)) := SpF.then HSp7.out HSp11.out (fun i h1 h2 => (HP4.out i h2).elim id (fun z => by have := HSz.out; have := HcN.out; omega))
    have HOk11 : Hid (∀ Z, SpF X11 Z (fun i => i = q ∨ (FlP q wb rb fv s' la Oi Oo i)) → EntD.Ok Z e) := fun Z b => (HIn.out Z (SpF.then HSpW.out b (fun i h1 h2 => h2.elim (fun z => .inl z) (fun z => (HP4.out i z).elim id (fun z => by have := HSz.out; have := HcN.out; omega))))).2
    have HFY : Hid (∀ Z, Below X11.heap.size X11 Z → Fm B wb g rb q fv fs clock T (some ⟨rb, 0, none⟩) none Z ins (outs ++ zs) la bg ct (.slice ai ni ci) vo2 s' (OO (V0 ++ us) ++ xs.map EntD.dat) (V0 ++ us ++ (pushS fs.length (mt fs) clock s y).1) Oi Oo2) := fun Z b => HFQ.out.later H b
    have HEB : Hid (∀ Z, Below X11.heap.size X11 Z → EBox Z (cN + 1) e) := fun Z b => Heb11.out.later b
    have HYI : Hid (∀ Z, Below X11.heap.size X11 Z → (Z.cell? ⟨q, 2, none⟩ = some (.slice ai ni ci)) ∧ Z.cell? ⟨cN + 1, 0, none⟩ = some e.vr ∧ Z.cell? ⟨cN + 1, 1, none⟩ = some (.int .i64 e.fam) ∧ Z.cell? ⟨cN + 1, 2, none⟩ = some e.vq ∧ Z.cell? ⟨cN + 1, 3, none⟩ = some (.int .i64 e.ts) ∧ Z.cell? ⟨cN + 1, 4, none⟩ = some (.int .i64 e.seq) ∧ Z.cell? ⟨cN + 1, 5, none⟩ = some (.int .i64 e.kind) ∧ Z.cell? ⟨cN + 1, 6, none⟩ = some e.vv) := fun Z b => ⟨(HFY.out Z b).box.c2, (HEB.out Z b).cells7⟩
    have HShe : Hid (Shrt e) := HSh.out.sh
    have HCe : Hid (∀ Z, Below X11.heap.size X11 Z → Calls Tryz.prog 35 #[.agg #[e.vr, .int .i64 e.fam, e.vq, .int .i64 e.ts, .int .i64 e.seq, .int .i64 e.kind, e.vv]] Z fun z w' => ∃ x : EntD, z = .returned (.agg x.cells) ∧ EntD.Same x e ∧ EOk (fun i => Z.heap.size ≤ i) w' x ∧ O3 w' Z.heap.size x ∧ Below Z.heap.size Z w') := fun Z b => cloneR_own (HOk11.out Z (SpF.of_below _ b)) HShe.out
    have HLi : Hid ((ins.length + 1) * 104 ≤ 140737488355328) := by unfold Hid; have := HL.out; omega
    have HB0 : Hid (B ≤ X11.heap.size) := Nat.le_trans HB07.out HSp11.out.size
    have HEY : Hid (¬ Oi (cN + 1) ∧ cN + 1 < X11.heap.size) := ⟨fun z => HnE.out (cN + 1) (Nat.le_succ _) (by have := HSz.out.1; omega) (.inr (.inr (.inl z))), (Array.getElem?_eq_some_iff.1 Heb11.out).1⟩
    clear HQ
    go_upto_region 20 with fail
    have D0 : Below X11.heap.size X11 X11.drew := (Below.refl _ _).drew
    have hS := HYI.out _ D0
    refine wp_region_noPanic ?_
    refine wp_region_anyE (S := fun Z => (Z.cell? ⟨q, 2, none⟩ = some (.slice ai ni ci)) ∧ Z.cell? ⟨cN + 1, 0, none⟩ = some e.vr ∧ Z.cell? ⟨cN + 1, 1, none⟩ = some (.int .i64 e.fam) ∧ Z.cell? ⟨cN + 1, 2, none⟩ = some e.vq ∧ Z.cell? ⟨cN + 1, 3, none⟩ = some (.int .i64 e.ts) ∧ Z.cell? ⟨cN + 1, 4, none⟩ = some (.int .i64 e.seq) ∧ Z.cell? ⟨cN + 1, 5, none⟩ = some (.int .i64 e.kind) ∧ Z.cell? ⟨cN + 1, 6, none⟩ = some e.vv) (E := fun j => decide (j < 11)) (by kernel_rfl) ?_
    refine anyE_gen (fun A0 hA0 => ?_)
    have s0 : A0.tmps.size = 157 := by rw [hA0]; rfl
    have v0_0 : Tv A0 0 (.pointer (some ⟨q, 0, none⟩)) := by rw [hA0]; rfl
    have v0_5 : Tv A0 5 (.pointer (some ⟨cN + 1, 0, none⟩)) := by rw [hA0]; rfl
    refine AnyE.tk (i := 0) (.pointer (some ⟨q, 0, none⟩)) rfl (by kernel_rfl) (fun _ _ _ h => h) (by rfl) (fun wq hq => op_move v0_0) hS ?_
    refine anyE_gen (fun A1 hA1 => ?_)
    have s1 := tz hA1 s0
    have v1_0 := tn hA1 (by decide) v0_0
    have v1_5 := tn hA1 (by decide) v0_5
    have v1_136 := te hA1 s0 (by decide)
    refine AnyE.tk (i := 1) (.pointer (some ⟨q, 0, none⟩)) rfl (by kernel_rfl) (fun _ _ _ h => h) (by rfl) (fun wq hq => op_move v1_0) hS ?_
    refine anyE_gen (fun A2 hA2 => ?_)
    have s2 := tz hA2 s1
    have v2_5 := tn hA2 (by decide) v1_5
    have v2_136 := tn hA2 (by decide) v1_136
    have v2_137 := te hA2 s1 (by decide)
    refine AnyE.tk (i := 2) (.pointer (some ⟨q, 0, none⟩)) rfl (by kernel_rfl) (fun _ _ _ h => h) (by rfl) (fun wq hq => op_nil v2_137) hS ?_
    refine anyE_gen (fun A3 hA3 => ?_)
    have s3 := tz hA3 s2
    have v3_5 := tn hA3 (by decide) v2_5
    have v3_136 := tn hA3 (by decide) v2_136
    have v3_138 := te hA3 s2 (by decide)
    refine AnyE.tk (i := 3) (.pointer (some ⟨q, 2, none⟩)) rfl (by kernel_rfl) (fun _ _ _ h => h) (by rfl) (fun wq hq => op_fieldI v3_138) hS ?_
    refine anyE_gen (fun A4 hA4 => ?_)
    have s4 := tz hA4 s3
    have v4_5 := tn hA4 (by decide) v3_5
    have v4_136 := tn hA4 (by decide) v3_136
    have v4_139 := te hA4 s3 (by decide)
    refine AnyE.tk (i := 4) (.slice ai ni ci) rfl (by kernel_rfl) (fun _ _ _ h => h) (by rfl) (fun wq hq => op_loadLi v4_139 hq.1) hS ?_
    refine anyE_gen (fun A5 hA5 => ?_)
    have s5 := tz hA5 s4
    have v5_5 := tn hA5 (by decide) v4_5
    have v5_136 := tn hA5 (by decide) v4_136
    have v5_140 := te hA5 s4 (by decide)
    refine AnyE.tk (i := 5) (.agg #[e.vr, .int .i64 e.fam, e.vq, .int .i64 e.ts, .int .i64 e.seq, .int .i64 e.kind, e.vv]) rfl (by kernel_rfl) (fun _ _ _ h => h) (by rfl) (fun wq hq => op_loadE v5_5 hq.2.1 hq.2.2.1 hq.2.2.2.1 hq.2.2.2.2.1 hq.2.2.2.2.2.1 hq.2.2.2.2.2.2.1 hq.2.2.2.2.2.2.2) hS ?_
    refine anyE_gen (fun A6 hA6 => ?_)
    have s6 := tz hA6 s5
    have v6_136 := tn hA6 (by decide) v5_136
    have v6_140 := tn hA6 (by decide) v5_140
    have v6_141 := te hA6 s5 (by decide)
    refine AnyE.one (i := 6) rfl (by kernel_rfl) (by rfl) (fun K6 hK6 => ?_)
    refine wp_cloneA v6_141 (HCe.out _ D0) ?_
    rintro r1 w1 ⟨x, rfl, sx, ok1, o31, b1⟩
    have D1 := D0.trans (b1.mono D0.size)
    refine ⟨_, rfl, hK6.out _ _ ⟨fun _ => HYI.out _ D1, ?_⟩⟩
    clear hK6
    refine anyE_gen (fun A7 hA7 => ?_)
    have s7 := tz hA7 s6
    have v7_136 := tn hA7 (by decide) v6_136
    have v7_140 := tn hA7 (by decide) v6_140
    have v7_142 := te hA7 s6 (by decide)
    refine AnyE.one (i := 7) rfl (by kernel_rfl) (by rfl) (fun K7 hK7 => ?_)
    refine wp_buildE v7_142 ?_
    have D2 := D1.alloc D1.size (.cells x.cells 84)
    have A2 := (Below.refl w1.heap.size w1).alloc (Nat.le_refl _) (.cells x.cells 84)
    refine hK7.out _ _ ⟨fun _ => HYI.out _ D2, ?_⟩
    clear hK7
    refine anyE_gen (fun A8 hA8 => ?_)
    have s8 := tz hA8 s7
    have v8_136 := tn hA8 (by decide) v7_136
    have v8_140 := tn hA8 (by decide) v7_140
    have v8_143 := te hA8 s7 (by decide)
    refine AnyE.one (i := 8) rfl (by kernel_rfl) (by rfl) (fun K8 hK8 => ?_)
    have F1 := HFY.out _ D2
    refine wp_append_ent (xs := ins) (x := x) (.tmp 140) (.tmp 143) rfl (ev_tmp v8_140) F1.rin.row ⟨w1.heap.size, 0, none⟩ (ev_tmp v8_143) (ent_new w1 x) o31.cells_one HLi.out (Nat.le_trans HB0.out D2.size) ?_
    intro a2 c2 w2 hr2 g2 lo2
    have bx2 : FlBx w2 q (some ⟨rb, 0, none⟩) none _ _ _ _ _ := F1.box.keep (g2.block q F1.box.lt (fun z => F1.aq.2.1 (F1.rin.rowO q z.symm)))
    have eb2 : EBox w2 (cN + 1) e := (g2.block (cN + 1) (Nat.lt_of_lt_of_le HEY.out.2 D2.size) (fun z => HEY.out.1 (F1.rin.rowO _ z.symm))).trans (HEB.out _ D2)
    refine hK8.out _ _ ⟨fun _ => ⟨bx2.c2, eb2.cells7⟩, ?_⟩
    clear hK8
    refine anyE_gen (fun A9 hA9 => ?_)
    have s9 := tz hA9 s8
    have v9_136 := tn hA9 (by decide) v8_136
    have v9_144 := te hA9 s8 (by decide)
    refine AnyE.one (i := 9) rfl (by kernel_rfl) (by rfl) (fun K9 hK9 => ?_)
    refine wp_nil0 v9_136 ?_
    refine hK9.out _ _ ⟨fun _ => ⟨bx2.c2, eb2.cells7⟩, ?_⟩
    clear hK9
    refine anyE_gen (fun A10 hA10 => ?_)
    have s10 := tz hA10 s9
    have v10_144 := tn hA10 (by decide) v9_144
    have v10_145 := te hA10 s9 (by decide)
    refine AnyE.one (i := 10) rfl (by kernel_rfl) (by rfl) (fun K10 hK10 => ?_)
    refine wp_fieldI v10_145 ?_
    refine hK10.out _ _ ⟨fun _ => ⟨bx2.c2, eb2.cells7⟩, ?_⟩
    clear hK10
    refine anyE_gen (fun A11 hA11 => ?_)
    have s11 := tz hA11 s10
    have v11_144 := tn hA11 (by decide) v10_144
    have v11_146 := te hA11 s10 (by decide)
    refine AnyE.one (i := 11) rfl (by kernel_rfl) (by rfl) (fun K11 hK11 => ?_)
    refine wp_storeLi bx2.c2 (bx2.fz 2) v11_146 v11_144 ?_
    refine hK11.out _ _ ⟨fun h => (by cases h), ?_⟩
    clear hK11
    refine AnyE.done (by kernel_rfl) (NoPanic.normal ?_) _
    clear s0 v0_0 v0_5 s1 v1_0 v1_5 v1_136 s2 v2_5 v2_136 v2_137 s3 v3_5 v3_136 v3_138 s4 v4_5 v4_136 v4_139 s5 v5_5 v5_136 v5_140 s6 v6_136 v6_140 v6_141 s7 v7_136 v7_140 v7_142 s8 v8_136 v8_140 v8_143 s9 v9_136 v9_144 s10 v10_144 v10_145 s11 v11_144 v11_146
    subst hA11 hA10 hA9 hA8 hA7 hA6 hA5 hA4 hA3 hA2 hA1 hA0
    have FQ := F1.putIn H (w0 := X11.drew.heap.size) (zs := [x]) (fun i hi => (HFY.out _ (Below.refl _ _)).inlt H i hi |>.2) (fun z hz => by rw [List.mem_singleton.1 hz]; exact o31.later A2) (List.pairwise_singleton _ _) (Nat.le_trans b1.size A2.size) hr2 g2 (fun k hk => (lo2 k hk).imp id (fun z => Nat.le_of_eq z.symm))
    have HFI := Lib.hid FQ
    have HxD := Lib.hid (EntD.dat_same.2 sx)
    have HD2 := Lib.hid D2
    have Heb2 := Lib.hid eb2
    obtain ⟨Xp, hXp⟩ : ∃ Y, Y = w2.setCell ⟨q, 2, none⟩ (.slice a2 (ins.length + 1) c2) := ⟨_, rfl⟩
    have HebP : Hid (EBox Xp (cN + 1) e) := by
      unfold Hid
      rw [hXp]
      exact (Below.heap_setCell _ _ _ _ (fun z => HnE.out (cN + 1) (Nat.le_succ _) (by have := HSz.out.1; omega) (.inl z))).trans Heb2.out
    rw [← hXp] at HFI ⊢
    clear hXp FQ D0 D1 D2 A2 hS F1 hr2 g2 lo2 bx2 eb2 sx ok1 o31 b1
    have HSpP : Hid (SpF X11 Xp (FlP q wb rb fv s' la Oi Oo2)) := SpF.then (SpF.of_below _ HD2.out) HFI.out.2 (fun i _ z => z)
    have HFlO : Hid (∀ i, i < X7.heap.size → FlP q wb rb fv s' la Oi Oo2 i → FlP q wb rb fv s' la Oi Oo i) := fun i h1 h2 => by
      rcases h2 with z | z | z | z | z
      · exact .inl z
      · exact .inr (.inl z)
      · exact .inr (.inr (.inl z))
      · rcases HOo.out i z with y | y
        · exact .inr (.inr (.inr (.inl y)))
        · omega
      · exact .inr (.inr (.inr (.inr z)))
    have HSpWp : Hid (SpF W Xp (FlP q wb rb fv s la Oi Oo)) := SpF.then HSpW.out HSpP.out (fun i h1 h2 => by
      have hw7 := HSp7.out.size
      exact (HP4.out i (HFlO.out i (Nat.lt_of_lt_of_le h1 hw7) h2)).elim id (fun z => by have := HSz.out; have := HcN.out; omega))
    have HCe2 : Hid (Calls Tryz.prog 35 #[.agg #[e.vr, .int .i64 e.fam, e.vq, .int .i64 e.ts, .int .i64 e.seq, .int .i64 e.kind, e.vv]] Xp fun z w' => ∃ x : EntD, z = .returned (.agg x.cells) ∧ EntD.Same x e ∧ EOk (fun i => Xp.heap.size ≤ i) w' x ∧ O3 w' Xp.heap.size x ∧ Below Xp.heap.size Xp w') := cloneR_own (HIn.out Xp HSpWp.out).2 HShe.out
    obtain ⟨x0, x1, x2, x3, x4, x5, x6⟩ := HebP.out.cells7
    go_wp2_with fail
    refine Calls.mono HCe2.out ?_
    rintro r Xq ⟨lb, rfl, sl, -, ol, bq⟩
    obtain ⟨lvr, lf, lvq, lts, lsq, lkd, lvv, lrow, lqual, lval⟩ := lb
    obtain ⟨lar, lcr, er⟩ := own_form' ol.row
    obtain ⟨laq, lcq, eq⟩ := own_form' ol.qual
    obtain ⟨lav, lcv, ew⟩ := own_form' ol.val
    simp only at er eq ew
    subst er eq ew
    have HBq := Lib.hid bq
    have HOl := Lib.hid ol
    have HSl := Lib.hid (EntD.dat_same.2 sl)
    have HFq := Lib.hid (HFI.out.1.later H bq)
    clear x0 x1 x2 x3 x4 x5 x6 HCe2 bq ol sl
    have bxq := HFq.out.box
    have c4 := bxq.c4
    have c5 := bxq.c5
    have c6 := bxq.c6
    have c7 := bxq.c7
    have c8 := bxq.c8
    have c9 := bxq.c9
    have c10 := bxq.c10
    have c11 := bxq.c11
    have fz := bxq.fz
    clear bxq
    unfold EntD.cells
    go_wp2_with fail
    obtain ⟨Xr, hXr, bxr, grr⟩ := FlBx.set8 HFq.out.box (⟨.slice lar lrow.length lcr, lf, .slice laq lqual.length lcq, lts, lsq, lkd, .slice lav lval.length lcv, lrow, lqual, lval⟩ : EntD)
    dsimp only at hXr
    rw [← hXr]
    obtain ⟨lb, hlb⟩ : ∃ z : EntD, z = (⟨.slice lar lrow.length lcr, lf, .slice laq lqual.length lcq, lts, lsq, lkd, .slice lav lval.length lcv, lrow, lqual, lval⟩ : EntD) := ⟨_, rfl⟩
    rw [← hlb] at HOl HSl bxr
    have HFr := Lib.hid (HFq.out.putLast H (w0 := Xp.heap.size) (fun i hi => (HFI.out.1.inlt H i hi).2) HOl.out (Nat.le_trans HB0.out HSpP.out.size) bxr grr)
    have HGr := Lib.hid grr
    clear hlb hXr bxr grr c4 c5 c6 c7 c8 c9 c10 c11 fz
    have HKo : Hid (∀ i, Or i → Xr.heap[i]? = X7.heap[i]?) := fun i hi => by
      have l7 := (HOr.out i hi).1
      have n7 := (HOr.out i hi).2
      have l11 := Nat.lt_of_lt_of_le l7 HSp11.out.size
      have lp := Nat.lt_of_lt_of_le l11 HSpP.out.size
      have lq := Nat.lt_of_lt_of_le lp HBq.out.size
      exact (HGr.out.block i lq (fun z => n7 (.inl (Option.some.inj z)))).trans ((HBq.out.block i lp).trans ((HSpP.out.block i l11 (fun z => n7 (HFlO.out i l7 z))).trans (HSp11.out.block i l7 n7)))
    have HSzr : Hid (X7.heap.size ≤ Xr.heap.size) := Nat.le_trans HSp11.out.size (Nat.le_trans HSpP.out.size (Nat.le_trans HBq.out.size HGr.out.size))
    have HCs : Hid (Calls Tryz.prog 97 #[.slice al nl cl] Xr fun r W' => r = .returned (.bool true) ∧ SpF Xr W' Or) := by
      refine spoil_any (HLw.out.keep HKo.out) (fun i hi => Nat.lt_of_lt_of_le (HOr.out i hi).1 HSzr.out) (Nat.le_trans HB07.out HSzr.out) (fun x hx => ?_) (by have := HQ6.out; have := HL.out; omega)
      have := HQ1.out x hx
      exact ⟨⟨Nat.le_trans this.2.1 (by decide), Nat.le_trans this.2.2.1 (by decide), Nat.le_trans this.2.2.2 (by decide)⟩, this.1⟩
    refine Calls.mono HCs.out ?_
    rintro r Xs ⟨rfl, sps⟩
    have HSs := Lib.hid sps
    clear sps HCs
    go_wp2
    go_ret
    have hFin : ∀ i, FlP q wb rb fv s' lb (fun i => Oi i ∨ (X11.drew.heap.size ≤ i ∧ i < w2.heap.size)) Oo2 i → FlP q wb rb fv s' la Oi Oo i ∨ X7.heap.size ≤ i := fun i hi => by
      rcases hi with z | z | z | z | z
      · exact .inl (.inl z)
      · exact .inl (.inr (.inl z))
      · rcases z with z | z
        · exact .inl (.inr (.inr (.inl z)))
        · exact .inr (Nat.le_trans HSp11.out.size z.1)
      · exact (HOo.out i z).imp (fun y => .inr (.inr (.inr (.inl y)))) id
      · exact .inr (Nat.le_trans HSp11.out.size (Nat.le_trans HSpP.out.size (HOl.out.lt i z).1))
    have fr := HFr.out.keep H HSs.out.size (fun i hi => HSs.out.block i (HFr.out.inlt H i hi).2 (fun z => by
      rcases hFin i hi with y | y
      · exact (HOr.out i z).2 y
      · have := (HOr.out i z).1; omega))
    obtain ⟨l', m', fd⟩ := HQ4.out zs x lb HZd.out HxD.out HSl.out
    have fr2 := fr.cast HQ2.out.symm (HT4.out.trans (congrArg OO (List.append_assoc V0 us _))) (List.append_assoc V0 us _)
    refine ⟨rfl, _, ⟨ins ++ [x], outs ++ zs, lb, _, vo2, s', _, l', m', _, Oo2, fr2, fd, rfl⟩, ?_, fun i hi => ?_⟩
    · refine SpF.then (((SpF.below HSpWp.out HBq.out)).grown HGr.out (fun k hk => .inl (Option.some.inj hk).symm)) HSs.out (fun i h1 h2 => ?_)
      have := (HSt.out.new i h2).1
      have e3 : X3.drew.heap.size = X3.heap.size := rfl
      have := HSz.out
      have := HcN.out
      omega
    · rcases hFin i hi with z | z
      · exact (HP4.out i z).imp id (fun z => by have := HSz.out; have := HcN.out; omega)
      · exact .inr (Nat.le_trans HSp7.out.size z)
  · have hb0 : (E != 0) = true := by simp [hE0]
    have HPs : Hid (pushS fs.length (mt fs) clock s y = ([], s.dat)) := by
      unfold Hid pushS
      rw [if_pos (by rw [← HE.out]; exact hE0)]
    have hxs : xs = [] := by
      have k := HT4.out
      rw [HPs.out, List.append_nil] at k
      have := List.append_right_eq_self.1 k
      exact List.map_eq_nil_iff.1 this
    subst hxs
    go_wp2
    go_ret
    have k7 := HF7.out
    have ds := HDs.out
    rw [HPs.out] at k7 ds
    simp only [List.map_nil, List.append_nil] at k7
    obtain ⟨f1, f2⟩ := HD.out.refused ds
    rw [← f2] at k7
    exact ⟨rfl, _, ⟨ins, outs, la, _, vo, s', us, l, m, Oi, Oo, k7, f1, rfl⟩, HSp7.out, fun i hi => (HP4.out i hi).imp id (fun z => by have := HSz.out; have := HcN.out; omega)⟩

end Go.Proofs.YthhkpkfpifllkaaGreat
