import Derived.Test.YtpabbnddeklpdaaGreatK18
import Derived.Deep.DeepCutAuto
namespace Go.Proofs.YtpabbnddeklpdaaGreat
open Go.RowKit Go.Shelf
set_option linter.unusedVariables false
set_option linter.unusedSimpArgs false
attribute [local go_sem] Oper.semAt_some

def padd3Ops : Array Oper := #[{ dst := some 25, op := Op.move (Operand.tmp 0), type := 24, pos := "law.go:160", after := #[], guard := none }, { dst := some 26, op := Op.nilCheck (Operand.tmp 25), type := 0, pos := "law.go:160", after := #[{ on := 0, ground := Ground.data }], guard := none }, { dst := some 27, op := Op.fieldAddr 31 (Operand.tmp 26) 0, type := 0, pos := "law.go:160", after := #[{ on := 1, ground := Ground.data }], guard := none }, { dst := some 28, op := Op.load 25 (Operand.tmp 27), type := 25, pos := "law.go:160", after := #[{ on := 2, ground := Ground.data }], guard := none }, { dst := some 29, op := Op.load 38 (Operand.tmp 7), type := 38, pos := "law.go:160", after := #[], guard := none }, { dst := some 30, op := Op.call { callee := Callee.value (Operand.func 19), args := #[Operand.tmp 28, Operand.tmp 29], argTypes := #[25, 38] }, type := 54, pos := "law.go:160", after := #[{ on := 3, ground := Ground.data }, { on := 4, ground := Ground.data }], guard := none }, { dst := some 11, op := Op.assign (Operand.tmp 30), type := 54, pos := "law.go:160", after := #[{ on := 5, ground := Ground.data }, { on := 5, ground := Ground.chain }, { on := 0, ground := Ground.phase }, { on := 1, ground := Ground.phase }, { on := 2, ground := Ground.phase }, { on := 3, ground := Ground.phase }, { on := 4, ground := Ground.phase }, { on := 5, ground := Ground.phase }], guard := none }]
set_option maxRecDepth 100000 in
set_option maxHeartbeats 16000000 in
theorem padd3_region {wr : World} {x : EntD} {pB tB b1 : Nat} {Ps : Nat → World → World → Prop} {Q : Exit → Act → World → Prop} {s1 s2 s3 s4 s5 s6 s8 s9 s10 s11 s12 s13 s14 s15 s16 s17 s18 s19 s20 s21 s22 s23 s24 s25 s26 s27 s28 s29 s30 s31 s32 s33 s34 s35 s36 s37 s38 s39 s40 s41 s42 s43 s44 s45 s46 : Value}
  (hne : Hid (¬ pB = tB ∧ ¬ b1 = tB)) (hPc : wr.cell? ⟨pB, 0, none⟩ = some (.pointer (some ⟨tB, 0, none⟩))) (hDc : wr.cell? ⟨b1, 0, none⟩ = some (x.vr) ∧ wr.cell? ⟨b1, 1, none⟩ = some (.int .i64 x.fam) ∧ wr.cell? ⟨b1, 2, none⟩ = some (x.vq) ∧ wr.cell? ⟨b1, 3, none⟩ = some (.int .i64 x.ts) ∧ wr.cell? ⟨b1, 4, none⟩ = some (.int .i64 x.seq) ∧ wr.cell? ⟨b1, 5, none⟩ = some (.int .i64 x.kind) ∧ wr.cell? ⟨b1, 6, none⟩ = some (x.vv))
  (hA : Hid (∀ Z, Below wr.heap.size wr Z → Calls Tryz.prog 19 #[.pointer (some ⟨tB, 0, none⟩), .agg #[x.vr, .int .i64 x.fam, x.vq, .int .i64 x.ts, .int .i64 x.seq, .int .i64 x.kind, x.vv]] Z (fun e w' => ∃ c' : Nat, e = .returned (.int .i64 (c' : Int)) ∧ Apart tB Z w' ∧ Ps c' Z w')))
  (hQ : Hid (∀ (c' : Nat) (Z Z' : World), Below wr.heap.size wr Z → Ps c' Z Z' → Q .normal (⟨#[.pointer (some ⟨pB, 0, none⟩), s1, s2, s3, s4, s5, s6, .pointer (some ⟨b1, 0, none⟩), s8, s9, s10, (.int .i64 (c' : Int)), s12, s13, s14, s15, s16, s17, s18, s19, s20, s21, s22, s23, s24, .pointer (some ⟨pB, 0, none⟩), .pointer (some ⟨pB, 0, none⟩), .pointer (some ⟨pB, 0, none⟩), .pointer (some ⟨tB, 0, none⟩), .agg #[x.vr, .int .i64 x.fam, x.vq, .int .i64 x.ts, .int .i64 x.seq, .int .i64 x.kind, x.vv], (.int .i64 (c' : Int)), s31, s32, s33, s34, s35, s36, s37, s38, s39, s40, s41, s42, s43, s44, s45, s46], []⟩ : Act) Z')) : Code.wp Tryz.prog (Code.region 3 padd3Ops true) Q (⟨#[.pointer (some ⟨pB, 0, none⟩), s1, s2, s3, s4, s5, s6, .pointer (some ⟨b1, 0, none⟩), s8, s9, s10, s11, s12, s13, s14, s15, s16, s17, s18, s19, s20, s21, s22, s23, s24, s25, s26, s27, s28, s29, s30, s31, s32, s33, s34, s35, s36, s37, s38, s39, s40, s41, s42, s43, s44, s45, s46], []⟩ : Act) wr := by
 have HPc := Lib.hid hPc
 have HDc := Lib.hid hDc
 clear hPc hDc
 unfold padd3Ops
 have BD : Below wr.heap.size wr wr.drew := (Below.refl _ _).drew
 refine wp_region_noPanic ?_
 refine wp_region_anyE (S := fun wx => Fb wr wx (fun k => k = tB)) (E := fun _ => true) (by kernel_rfl) ?_
 have hHeld : Fb wr wr.drew (fun k => k = tB) := Fb.of_below BD
 have HB := Lib.hid BD
 obtain ⟨Z0, hZ0⟩ : ∃ z, z = wr.drew := ⟨_, rfl⟩
 rw [← hZ0] at HB hHeld ⊢
 clear hZ0 BD
 refine AnyE.take (i := 0) (.pointer (some ⟨pB, 0, none⟩)) rfl (by kernel_rfl) (by kernel_rfl) (by kernel_rfl) (by kernel_rfl) (fun _ _ _ h => h) (.inl ⟨by kernel_rfl, fun wy hy => by (go_simp; done)⟩) hHeld ?_
 try simp only [Act.put, List.setIfInBounds_toArray, List.set_cons_zero, List.set_cons_succ]
 refine AnyE.take (i := 1) (.pointer (some ⟨pB, 0, none⟩)) rfl (by kernel_rfl) (by kernel_rfl) (by kernel_rfl) (by kernel_rfl) (fun _ _ _ h => h) (.inl ⟨by kernel_rfl, fun wy hy => by (go_simp; done)⟩) hHeld ?_
 try simp only [Act.put, List.setIfInBounds_toArray, List.set_cons_zero, List.set_cons_succ]
 refine AnyE.take (i := 2) (.pointer (some ⟨pB, 0, none⟩)) rfl (by kernel_rfl) (by kernel_rfl) (by kernel_rfl) (by kernel_rfl) (fun _ _ _ h => h) (.inl ⟨by kernel_rfl, fun wy hy => by (go_simp; done)⟩) hHeld ?_
 try simp only [Act.put, List.setIfInBounds_toArray, List.set_cons_zero, List.set_cons_succ]
 refine AnyE.take (i := 3) (.pointer (some ⟨tB, 0, none⟩)) rfl (by kernel_rfl) (by kernel_rfl) (by kernel_rfl) (by kernel_rfl) (fun _ _ _ h => h) (.inl ⟨by kernel_rfl, fun wy hy => by (have q0 := hy.cellF (p := ⟨pB, 0, none⟩) hne.out.1 HPc.out; go_simp; done)⟩) hHeld ?_
 try simp only [Act.put, List.setIfInBounds_toArray, List.set_cons_zero, List.set_cons_succ]
 refine AnyE.take (i := 4) (.agg #[x.vr, .int .i64 x.fam, x.vq, .int .i64 x.ts, .int .i64 x.seq, .int .i64 x.kind, x.vv]) rfl (by kernel_rfl) (by kernel_rfl) (by kernel_rfl) (by kernel_rfl) (fun _ _ _ h => h) (.inl ⟨by kernel_rfl, fun wy hy => by (have c0 := hy.cellF (p := ⟨b1, 0, none⟩) hne.out.2 HDc.out.1; have c1 := hy.cellF (p := ⟨b1, 1, none⟩) hne.out.2 HDc.out.2.1; have c2 := hy.cellF (p := ⟨b1, 2, none⟩) hne.out.2 HDc.out.2.2.1; have c3 := hy.cellF (p := ⟨b1, 3, none⟩) hne.out.2 HDc.out.2.2.2.1; have c4 := hy.cellF (p := ⟨b1, 4, none⟩) hne.out.2 HDc.out.2.2.2.2.1; have c5 := hy.cellF (p := ⟨b1, 5, none⟩) hne.out.2 HDc.out.2.2.2.2.2.1; have c6 := hy.cellF (p := ⟨b1, 6, none⟩) hne.out.2 HDc.out.2.2.2.2.2.2; go_simp; done)⟩) hHeld ?_
 try simp only [Act.put, List.setIfInBounds_toArray, List.set_cons_zero, List.set_cons_succ]
 refine AnyE.one (i := 5) rfl (by kernel_rfl) (by kernel_rfl) (fun KK hK => ?_)
 go_simp
 go_at_call 19
 refine (hA.out _ HB.out).mono ?_
 rintro e9 w1 ⟨c', rfl, hap, hcs⟩
 have HR := Lib.hid hcs
 have HZ := Lib.hid HB.out
 have HF := Lib.hid ((Fb.of_below HB.out (O := fun k => k = tB)).trans (Fb.of_apart hap rfl))
 clear hcs hap
 go_wp2_with fail
 refine hK.out _ _ ⟨fun _ => HF.out, ?_⟩
 have hHeld := HF.out
 clear hK
 try simp only [Act.put, List.setIfInBounds_toArray, List.set_cons_zero, List.set_cons_succ]
 refine AnyE.take (i := 6) ((.int .i64 (c' : Int))) rfl (by kernel_rfl) (by kernel_rfl) (by kernel_rfl) (by kernel_rfl) (fun _ _ _ h => h) (.inl ⟨by kernel_rfl, fun wy hy => by (go_simp; done)⟩) hHeld ?_
 try simp only [Act.put, List.setIfInBounds_toArray, List.set_cons_zero, List.set_cons_succ]
 refine AnyE.done (by kernel_rfl) (NoPanic.normal ?_) _
 exact hQ.out _ _ _ HZ.out HR.out

set_option maxRecDepth 100000 in
set_option maxHeartbeats 8000000 in
theorem padd_any {w : World} {pB tB g n : Nat} {X FO : Nat → Prop} {L R : List EntD} {lv : Value} {f : Bool} {e : EntD} (h : Gm w pB tB g X FO L R lv f) (he : EntD.Ok w e) (hn : L.length + 1 ≤ n) (hsz : n < 1000000) :
  Calls Tryz.prog 32 #[.pointer (some ⟨pB, 0, none⟩), .agg e.cells, .pointer (some ⟨g, 0, none⟩)] w (PlP w pB tB g X FO n f) := by
 have A0 := (Below.refl w.heap.size w).alloc (Nat.le_refl _) (.cells e.cells 38)
 have bx := EBox.new w e
 obtain ⟨V, hV⟩ : ∃ V, V = w.alloc (.cells e.cells 38) := ⟨_, rfl⟩
 rw [← hV] at A0 bx
 have HV : Hid (V = _) := hV
 unfold EntD.cells at HV
 have HG := Lib.hid h
 have HE := Lib.hid he
 have HA0 := Lib.hid A0
 have hok := he.later A0
 have hce := bx.cells7
 have HN := Lib.hid (And.intro hn hsz)
 obtain ⟨am, mm, cm, hlv⟩ : ∃ a m c, lv = .slice a m c := by
  obtain ⟨a, c, k⟩ := h.pl.ref.rd.slice
  exact ⟨_, _, _, k⟩
 subst hlv
 clear hV A0 bx h he hn hsz
 unfold EntD.cells
 go_enter Tryz.func32, Tryz.ntmps32
 go_upto_region 1 with fail
 rw [← HV.out]
 refine padd_region hok hce (Lib.hid ?_)
 intro D1 D2 b1 b2 Z hp
 have HP := Lib.hid hp
 have HbZ := Lib.hid (HA0.out.trans (hp.bel.mono HA0.out.size))
 have hG := HG.out.later HbZ.out
 have hpc := hG.pl.cells
 have hd2 := hp.e2.cells7
 have hok2 : EntD.Ok Z D2 := hp.l2.ok (fine_same8 hp.s2 (EntD.cut_fine HE.out))
 have hf1 : EntD.Fine D1 := fine_same8 hp.s1 (EntD.cut_fine HE.out)
 have hAd : Hid (∀ Y, Below Z.heap.size Z Y → Calls Tryz.prog 47 #[.agg #[.slice am mm cm, .bool f], .agg #[D2.vr, .int .i64 D2.fam, D2.vq, .int .i64 D2.ts, .int .i64 D2.seq, .int .i64 D2.kind, D2.vv]] Y (AddF Y X R f D2)) := fun Y b => refAdd_f ((HG.out.later (HbZ.out.trans (b.mono HbZ.out.size))).pl.ref) (hok2.later b) (by have := HN.out; have := HG.out.pl.sm.len; omega)
 have hX : Hid (∀ k, X k → k < Z.heap.size) := hG.pl.lt
 have HGZ := Lib.hid hG
 have HF1 := Lib.hid hf1
 clear hp hce hok hok2 hf1 hG
 go_upto_region 2 with fail
 refine padd2_region ⟨hpc.2.1, hpc.2.2⟩ hd2 hX hAd (Lib.hid ?_)
 intro c' a' m' k' R' b9 Z2 h2
 have HA2 := Lib.hid h2
 have bx1 := HP.out.e1.later h2.bel
 have hd1 := bx1.cells7
 have hp2 := (HGZ.out.later h2.bel).pl.cells
 have hAm : Hid (∀ Y, Below Z2.heap.size Z2 Y → Calls Tryz.prog 19 #[.pointer (some ⟨tB, 0, none⟩), .agg #[D1.vr, .int .i64 D1.fam, D1.vq, .int .i64 D1.ts, .int .i64 D1.seq, .int .i64 D1.kind, D1.vv]] Y (fun e w' => ∃ c' : Nat, e = .returned (.int .i64 (c' : Int)) ∧ Apart tB Y w' ∧ (fun c' Y w' => Apart tB Y w' ∧ ((checkS D1 ≠ 0 ∧ c' = checkS D1 ∧ Tb (fun k => X k ∨ Y.heap.size ≤ k) w' tB L ((pk L : Nat) : Int) f) ∨ (checkS D1 = 0 ∧ f = true ∧ c' = 81 ∧ Tb (fun k => X k ∨ Y.heap.size ≤ k) w' tB L ((pk L : Nat) : Int) f) ∨ (checkS D1 = 0 ∧ f = false ∧ (∃ y ∈ L, compareS D1 y = 0) ∧ c' = 80 ∧ Tb (fun k => X k ∨ Y.heap.size ≤ k) w' tB L ((pk L : Nat) : Int) f) ∨ (c' = 0 ∧ f = false ∧ checkS D1 = 0 ∧ (¬ ∃ y ∈ L, compareS D1 y = 0) ∧ ∃ A B x, L = A ++ B ∧ EntD.Same x D1 ∧ Tb (fun k => X k ∨ Y.heap.size ≤ k) w' tB (A ++ x :: B) (((pk L : Nat) : Int) + ((packL D1).length : Nat)) f))) c' Y w')) := fun Y b => by
  have hGY := HGZ.out.later (HA2.out.bel.trans (b.mono HA2.out.bel.size))
  have htl := HGZ.out.pl.tlt
  have hs := HA2.out.bel.size
  have hs2 := b.size
  have tb : Tb (fun k => X k ∨ Y.heap.size ≤ k) Y tB L ((pk L : Nat) : Int) f := hGY.pl.tab.monoX (fun i hi => .inl hi) (fun q => by
   rcases q with q | q
   ·exact hGY.pl.tab.not q
   ·omega)
  refine (add_ta tb ((HP.out.l1.ok HF1.out).later (HA2.out.bel.trans (b.mono HA2.out.bel.size))) (fun i hi => .inr hi) (by have := HN.out; omega)).mono ?_
  rintro e w' ⟨c, h1, h2, h3⟩
  exact ⟨c, h1, h2, h2, h3⟩
 clear h2 hd2 hAd hX
 go_upto_region 3 with fail
 refine padd3_region (Lib.hid ⟨HG.out.pl.pt, fun q => by have := HP.out.lo.1; have := HG.out.pl.tlt; have := HA0.out.size; omega⟩) hp2.1 hd1 hAm (Lib.hid ?_)
 intro c3 Z3 Z4 b3 hPs
 clear hAm hd1 hp2 bx1 hpc
 obtain ⟨hap, hcs⟩ := hPs
 -- both answer the same
 have hsame : EntD.Same D1 D2 := same_cross HP.out.s1 HP.out.s2
 obtain ⟨L', rfl, hsm, htb, hll⟩ : ∃ L', c3 = c' ∧ Sm R' L' ∧ Tb (fun k => X k ∨ Z3.heap.size ≤ k) Z4 tB L' ((pk L' : Nat) : Int) f ∧ L'.length ≤ L.length + 1 := by
  have key : ∀ L', ((checkS D1 ≠ 0 ∧ c3 = checkS D1 ∧ L' = L) ∨ (checkS D1 = 0 ∧ f = true ∧ c3 = 81 ∧ L' = L) ∨ (checkS D1 = 0 ∧ f = false ∧ (∃ y ∈ L, compareS D1 y = 0) ∧ c3 = 80 ∧ L' = L) ∨ (c3 = 0 ∧ f = false ∧ checkS D1 = 0 ∧ (¬ ∃ y ∈ L, compareS D1 y = 0) ∧ ∃ A B x, L = A ++ B ∧ EntD.Same x D1 ∧ L' = A ++ x :: B ∧ Srt (A ++ x :: B))) → c3 = c' ∧ Sm R' L' := fun L' q => both_f HG.out.pl.sm HG.out.pl.tab.srt hsame q HA2.out.cs
  rcases hcs with ⟨q1, q2, q3⟩ | ⟨q1, q2, q3, q4⟩ | ⟨q1, q2, q3, q4, q5⟩ | ⟨q1, q2, q3, q4, A, B, x, q5, q6, q7⟩
  ·obtain ⟨k1, k2⟩ := key L (.inl ⟨q1, q2, rfl⟩)
   exact ⟨L, k1, k2, q3, by omega⟩
  ·obtain ⟨k1, k2⟩ := key L (.inr (.inl ⟨q1, q2, q3, rfl⟩))
   exact ⟨L, k1, k2, q4, by omega⟩
  ·obtain ⟨k1, k2⟩ := key L (.inr (.inr (.inl ⟨q1, q2, q3, q4, rfl⟩)))
   exact ⟨L, k1, k2, q5, by omega⟩
  ·obtain ⟨k1, k2⟩ := key (A ++ x :: B) (.inr (.inr (.inr ⟨q1, q2, q3, q4, A, B, x, q5, q6, rfl, q7.srt⟩)))
   have ep : ((pk (A ++ x :: B) : Nat) : Int) = ((pk L : Nat) : Int) + ((packL D1).length : Nat) := by rw [pk_ins A B q6, ← q5]; simp
   exact ⟨A ++ x :: B, k1, k2, by rw [ep]; exact q7, by rw [q5]; simp; omega⟩
 have HT := Lib.hid (And.intro hap (And.intro hsm (And.intro htb (And.intro hll b3))))
 clear hcs hap hsm htb hll b3 hsame
 -- what was handed in stands
 have hs02 := HA2.out.bel.size
 have hs23 := HT.out.2.2.2.2.size
 have f24 : Fb Z Z4 (fun k => k = tB) := ((Fb.of_below HA2.out.bel).trans' (Fb.of_below HT.out.2.2.2.2) hs02 (fun i _ q => q)).trans' (Fb.of_apart (O := fun k => k = tB) HT.out.1 rfl) (by have := HT.out.2.2.2.2.size; omega) (fun i _ q => q)
 have hne : ∀ k, k = tB → k < w.heap.size := fun k q => by have := HG.out.pl.tlt; omega
 have hVw : w.heap.size < V.heap.size := by
  rw [HV.out]; simp
 have l1' : LaidE Z4 V.heap.size D1 := HP.out.l1.fbL f24 (fun k hk q => by have := HP.out.l1.rng8 hk; have := hne k q; omega)
 have l2' : LaidE Z4 V.heap.size D2 := HP.out.l2.fbL f24 (fun k hk q => by have := HP.out.l2.rng8 hk; have := hne k q; omega)
 have bx1 : EBox Z4 b1 D1 := HP.out.e1.fbF f24 (fun q => by have := HP.out.lo.1; have := hne _ q; omega)
 have bx2 : EBox Z4 b2 D2 := HP.out.e2.fbF f24 (fun q => by have := HP.out.lo.2.1; have := hne _ q; omega)
 have bx9 : RBx Z4 b9 (.slice a' m' k') f := (HA2.out.box.later HT.out.2.2.2.2).keep (HT.out.1.block _ (HA2.out.box.later HT.out.2.2.2.2).lt (fun q => by have := HA2.out.lo; have := HbZ.out.size; have := hne _ q; omega))
 have fZ4 : Fb w Z4 (fun k => k = tB) := (Fb.of_below HbZ.out).trans' f24 HbZ.out.size (fun i _ q => q)
 have hbox4 := (fZ4.block pB HG.out.pl.plt HG.out.pl.pt).trans HG.out.pl.box
 have HSt := Lib.hid (stands8_any l1' (l2'.ok (fine_same8 HP.out.s2 (EntD.cut_fine HE.out))) (same_cross HP.out.s1 HP.out.s2) HF1.out)
 have H4 := Lib.hid (And.intro l1' (And.intro bx1 (And.intro bx9 (And.intro hbox4 fZ4))))
 obtain ⟨p0, p1, p2, p3, p4, p5, p6⟩ := bx1.cells7
 obtain ⟨q0, q1, q2, q3, q4, q5, q6⟩ := bx2.cells7
 clear l1' l2' bx1 bx2 bx9 hbox4 fZ4 f24
 go_wp2_with fail
 refine HSt.out.mono ?_
 rintro z Z5 ⟨rfl, b5⟩
 have hs4 := HT.out.1.size
 have bx9 := H4.out.2.2.1.later b5
 have hbx5 : Z5.heap[pB]? = _ := (b5.block pB (Array.getElem?_eq_some_iff.1 H4.out.2.2.2.1).1).trans H4.out.2.2.2.1
 have k1 : Z5.cell? ⟨pB, 1, none⟩ = some (.slice am mm cm) := by simp [World.cell?, hbx5]
 have k2 : Z5.cell? ⟨pB, 2, none⟩ = some (.bool f) := by simp [World.cell?, hbx5]
 have k3 : ∀ i, Z5.frozen? ⟨pB, i, none⟩ = false := fun i => by simp [World.frozen?, hbx5]
 have k31 := k3 1
 have k32 := k3 2
 have r0 := bx9.c0
 have r1 := bx9.c1
 have HB5 := Lib.hid b5
 have a24 : Apart tB Z2 Z4 := ⟨HT.out.1.os.trans HT.out.2.2.2.2.os, HT.out.1.tape.trans HT.out.2.2.2.2.tape, HT.out.1.output.trans HT.out.2.2.2.2.output, by omega, fun k hk hne => (HT.out.1.block k (by omega) hne).trans (HT.out.2.2.2.2.block k hk)⟩
 obtain ⟨X', hG6, hgo, hx6⟩ := HG.out.added HbZ.out HA2.out.bel a24 (HT.out.2.2.1.monoX (G' := fun k => X k ∨ Z2.heap.size ≤ k) (fun i hi => hi.imp id (fun q => by omega)) (fun q => by
  rcases q with q | q
  ·exact HG.out.pl.tab.not q
  ·have := HG.out.pl.tlt; have := HbZ.out.size; omega)) HA2.out.rd HA2.out.rl HT.out.2.1 b5
 obtain ⟨Z6, hZ6⟩ : ∃ Z6, Z6 = (Z5.setCell ⟨pB, 1, none⟩ (.slice a' m' k')).setCell ⟨pB, 2, none⟩ (.bool f) := ⟨_, rfl⟩
 rw [← hZ6] at hG6 hgo
 have fs : Fb Z5 Z6 (fun k => k = pB) := by rw [hZ6]; exact (Fb.set1F (O := fun k => k = pB) (g := pB) rfl 1 _).trans (Fb.set1F (O := fun k => k = pB) (g := pB) rfl 2 _)
 have hb1p : b1 ≠ pB := fun q => by have := HP.out.lo.1; have := HG.out.pl.plt; omega
 have bx1 : EBox Z6 b1 D1 := (H4.out.2.1.later b5).fbF fs hb1p
 have l1' : LaidE Z6 V.heap.size D1 := (H4.out.1.later b5).fbL fs (fun k hk q => by have := HP.out.l1.rng8 hk; have := HG.out.pl.plt; omega)
 have e3 : E3 Z6 D1 := l1'.e38 HF1.out HP.out.a1
 have hdf : ∀ k, D1.blk k → ¬ FO k := fun k hk hf => by have := HP.out.l1.rng8 hk; have := (HG.out.fc k hf).lt; omega
 have HFe := Lib.hid (fentry_any hG6.fu e3 hdf)
 have HZ6 := Lib.hid hZ6
 have H6 := Lib.hid (And.intro hG6 (And.intro hgo (And.intro l1' hx6)))
 clear hbx5 k3 bx9 b5 a24 hG6 hgo hx6 hZ6 fs l1' e3 hdf HSt p0 p1 p2 p3 p4 p5 p6 q0 q1 q2 q3 q4 q5 q6
 go_upto_region 7 with fail
 rw [← HZ6.out]
 obtain ⟨p0, p1, p2, p3, p4, p5, p6⟩ := bx1.cells7
 clear bx1 k1 k2 k31 k32 r0 r1
 go_wp2_with fail
 refine HFe.out.mono ?_
 rintro z Z7 ⟨⟨v7, rfl⟩, f7, k7⟩
 obtain ⟨FO2, hG7, hF7⟩ := H6.out.1.full (Y := fun k => D1.blk k) f7 (k7.mono (fun i _ q => q)) (fun k hk hp => by
  have h1 := HP.out.l1.rng8 hk
  have hw := HG.out.pl.plt
  have ht := HG.out.pl.tlt
  rcases hp with q | q | q
  ·omega
  ·omega
  ·have hz := (HP.out.l1.rng8 hk).2
   rcases H6.out.2.2.2 k q with q | q
   ·have := HG.out.pl.lt k q; omega
   ·omega) (fun k hk => by
  rcases hk with q | q | q
  ·exact .inl q
  ·exact .inr (.inl q)
  ·exact .inr (.inr q.1))
 have H7 := Lib.hid (And.intro hG7 (And.intro hF7 k7))
 clear f7 k7 hG7 hF7 HFe p0 p1 p2 p3 p4 p5 p6
 go_wp2
 go_ret
 refine ⟨rfl, X', FO2, L', R', _, H7.out.1, ?_, by have := HN.out; have := HT.out.2.2.2.1; omega⟩
 have hs6 := H6.out.2.1.fb.size
 refine ⟨H6.out.2.1.fb.trans' H7.out.2.2 hs6 (fun i hi q => ?_), H6.out.2.1.nx, fun k hk => ?_⟩
 ·rcases q with q | q
  ·exact .inr (.inr q)
  ·have := HP.out.l1.rng8 q; omega
 ·rcases H7.out.2.1 k hk with q | q | q
  ·exact .inl q
  ·have := HP.out.l1.rng8 q; exact .inr (by omega)
  ·exact .inr (by omega)
end Go.Proofs.YtpabbnddeklpdaaGreat

namespace Go.Proofs.YtpabbnddeklpdaaGreat
open Go.RowKit Go.Shelf
set_option linter.unusedVariables false
set_option linter.unusedSimpArgs false

theorem Bxd.later8 {w w' : World} {b : Nat} {t : TypeId} {v : Value} (h : Bxd w b t v) (k : Below w.heap.size w w') : Bxd w' b t v := h.keep (k.block b h.lt)
theorem Bxd.cellsAt {w : World} {b : Nat} {t : TypeId} {v : Value} (h : Bxd w b t v) : CellsAt w b := ⟨_, h, rfl⟩
structure AlB (W : World) (b g n : Nat) (dv lv : Value) : Prop where
 b0 : Bxd W b 32 (.pointer (some ⟨g, 0, none⟩))
 b1 : Bxd W (b + 1) 52 dv
 b2 : Bxd W (b + 2) 4 (.bool false)
 b3 : Bxd W (b + 3) 27 lv
 b4 : Bxd W (b + 4) 3 (.int .i64 (n : Int))
theorem AlB.keptC {W Z : World} {b g n : Nat} {dv lv : Value} {H : Nat → Prop} (h : AlB W b g n dv lv) (k : KpC H W Z) (hH : ∀ i, i < 5 → H (b + i)) : AlB Z b g n dv lv :=
 ⟨k.cells _ _ h.b0 rfl (hH 0 (by omega)), k.cells _ _ h.b1 rfl (hH 1 (by omega)), k.cells _ _ h.b2 rfl (hH 2 (by omega)), k.cells _ _ h.b3 rfl (hH 3 (by omega)), k.cells _ _ h.b4 rfl (hH 4 (by omega))⟩
theorem AlB.turn {W Z : World} {b g n B : Nat} {dv lv : Value} (h : AlB W b g n dv lv) (t : Turn B W Z) : AlB Z b g n dv lv := h.keptC (H := fun _ => True) t.toC (fun _ _ => trivial)
theorem AlB.later {W Z : World} {b g n : Nat} {dv lv : Value} (h : AlB W b g n dv lv) (k : Below W.heap.size W Z) : AlB Z b g n dv lv := h.keptC (H := fun _ => True) (KpC.of_below k) (fun _ _ => trivial)
def AlI (w : World) (nb pB tB g : Nat) (X FO : Nat → Prop) (R : List EntD) (lv : Value) (f : Bool) (c : Nat → Nat) (C : Nat → Prop) (J : World → Prop) (dv : Value) (n : Nat) (W : World) (X' FO' : Nat → Prop) (L' R' : List EntD) (lv' : Value) : Prop :=
 RC w W nb pB tB g X FO X' FO' L' R' lv' f ∧ RdX X W lv R ∧ AlB W w.heap.size g n dv lv ∧ J W ∧ L'.length ≤ c n ∧ n ≤ R.length
variable {w : World} {nb pB tB g n : Nat} {X FO : Nat → Prop} {L R : List EntD} {lv : Value} {f : Bool} {c : Nat → Nat} {C : Nat → Prop} {J : World → Prop} {dv : Value} {W Z : World} {X' FO' : Nat → Prop} {L' R' : List EntD} {lv' : Value} {fn : Nat} {lb : Array Value}
theorem AlI.turn {B : Nat} (hD : Doer pB tB g f fn lb c C J) (h : AlI w nb pB tB g X FO R lv f c C J dv n W X' FO' L' R' lv') (hB : w.heap.size ≤ B) (t : Turn B W Z) : AlI w nb pB tB g X FO R lv f c C J dv n Z X' FO' L' R' lv' :=
 ⟨h.1.turn hB t, h.2.1.keptC t.toC, h.2.2.1.turn t, hD.keep _ _ h.2.2.2.1 t.toC, h.2.2.2.2⟩
theorem AlI.later (hD : Doer pB tB g f fn lb c C J) (h : AlI w nb pB tB g X FO R lv f c C J dv n W X' FO' L' R' lv') (b : Below W.heap.size W Z) : AlI w nb pB tB g X FO R lv f c C J dv n Z X' FO' L' R' lv' :=
 ⟨h.1.later b, h.2.1.keptC (KpC.of_below b), h.2.2.1.later b, hD.keep _ _ h.2.2.2.1 (KpC.of_below b), h.2.2.2.2⟩
theorem AlI.full {x : EntD} {s : Nat} {F2 : Nat → Prop} (hD : Doer pB tB g f fn lb c C J) (hG : Gm w pB tB g X FO L R lv f) (h : AlI w nb pB tB g X FO R lv f c C J dv n W X' FO' L' R' lv') (hw : w.heap.size + 5 ≤ nb) (hz : nb ≤ W.heap.size) (hC : ∀ k, C k → k < w.heap.size ∧ ¬ FO k)
  (hf : FuB Z g F2) (hb : Fb W Z (fun k => FO' k ∨ x.blk k)) (hx : ∀ k, x.blk k → s ≤ k) (hs : nb ≤ s ∧ ∀ k, X' k → k < s) (hF : ∀ k, F2 k → FO' k ∨ x.blk k ∨ W.heap.size ≤ k) :
  ∃ FO2, AlI w nb pB tB g X FO R lv f c C J dv n Z X' FO2 L' R' lv' ∧ (∀ k, FO2 k → FO' k ∨ x.blk k ∨ W.heap.size ≤ k) := by
 obtain ⟨FO2, h1, h2⟩ := h.1.full (Y := fun k => x.blk k) (by omega) hz hf hb (fun k hk => ⟨Nat.le_trans hs.1 (hx k hk), fun q => by have := hs.2 k q; have := hx k hk; omega⟩) hF ⟨hG.pl.plt, hG.pl.tlt⟩
 have old : ∀ k, k < nb → (w.heap.size ≤ k ∨ ¬ FO k) → ¬ (FO' k ∨ x.blk k) := fun k hk ho q => by
  rcases q with q | q
  ·rcases h.1.nf k q with q | q
   ·rcases ho with ho | ho
    ·have := (hG.fc k q).lt; omega
    ·exact ho q
   ·omega
  ·have := hx k q; omega
 refine ⟨FO2, ⟨h1, h.2.1.keptC (KpC.of_fb hb (fun k hk => old k (by have := hG.pl.lt k hk; omega) (.inr (fun q => hG.ap k (.inr (.inr hk)) q)))), h.2.2.1.keptC (H := fun k => w.heap.size ≤ k ∧ k < nb) (KpC.of_fb hb (fun k hk => old k hk.2 (.inl hk.1))) (fun i hi => by omega), hD.keep _ _ h.2.2.2.1 (KpC.of_fb hb (fun k hk => old k (by have := hC k hk; omega) (.inr (hC k hk).2))), h.2.2.2.2⟩, h2⟩
theorem AlI.did {e : Ending} (hD : Doer pB tB g f fn lb c C J) (hG : Gm w pB tB g X FO L R lv f) (h : AlI w nb pB tB g X FO R lv f c C J dv n W X' FO' L' R' lv') (hw : w.heap.size + 5 ≤ nb) (hz : nb ≤ W.heap.size) (hC : ∀ k, C k → k < w.heap.size ∧ ¬ PlB pB tB X k ∧ ¬ FO k)
  (hp : PlP W pB tB g X' FO' (c (n + 1)) f e Z) : ∃ X2 FO2 L2 R2 lv2, (RC w Z nb pB tB g X FO X2 FO2 L2 R2 lv2 f ∧ RdX X Z lv R ∧ AlB Z w.heap.size g n dv lv ∧ J Z ∧ L2.length ≤ c (n + 1)) ∧ Fb W Z (fun k => k = pB ∨ k = tB ∨ FO' k) := by
 obtain ⟨-, X2, FO2, L2, R2, lv2, gm, go, hl⟩ := hp
 have old : ∀ k, k < nb → (w.heap.size ≤ k ∨ ¬ (k = pB ∨ k = tB ∨ FO k)) → ¬ (k = pB ∨ k = tB ∨ FO' k) := fun k hk ho q => by
  have h1 := hG.pl.plt
  have h2 := hG.pl.tlt
  rcases q with q | q | q
  ·rcases ho with ho | ho
   ·omega
   ·exact ho (.inl q)
  ·rcases ho with ho | ho
   ·omega
   ·exact ho (.inr (.inl q))
  ·rcases h.1.nf k q with q | q
   ·rcases ho with ho | ho
    ·have := (hG.fc k q).lt; omega
    ·exact ho (.inr (.inr q))
   ·omega
 refine ⟨X2, FO2, L2, R2, lv2, ⟨h.1.step (by omega) hz gm go, h.2.1.keptC (KpC.of_fb go.fb (fun k hk => old k (by have := hG.pl.lt k hk; omega) (.inr (fun q => ?_)))), h.2.2.1.keptC (H := fun k => w.heap.size ≤ k ∧ k < nb) (KpC.of_fb go.fb (fun k hk => old k hk.2 (.inl hk.1))) (fun i hi => by omega), hD.keep _ _ h.2.2.2.1 (KpC.of_fb go.fb (fun k hk => old k (by have := hC k hk; omega) (.inr (fun q => ?_)))), hl⟩, go.fb⟩
 ·rcases q with q | q | q
  ·exact hG.pl.np (q ▸ hk)
  ·exact hG.pl.tab.not (q ▸ hk)
  ·exact hG.ap k (.inr (.inr hk)) q
 ·have h3 := hC k hk
  rcases q with q | q | q
  ·exact h3.2.1 (.inl q)
  ·exact h3.2.1 (.inr (.inl q))
  ·exact h3.2.2 q
end Go.Proofs.YtpabbnddeklpdaaGreat

namespace Go.Proofs.YtpabbnddeklpdaaGreat
open Go.RowKit Go.Shelf
set_option linter.unusedVariables false
attribute [local go_sem] Oper.semAt_some

def Und (y : EntD) (s : Nat) : Prop := ∀ g, y.vr.ownBlock = some g ∨ y.vq.ownBlock = some g ∨ y.vv.ownBlock = some g → g < s
def Dsj (x y : EntD) : Prop := ∀ g, (x.vr.ownBlock = some g ∨ x.vq.ownBlock = some g ∨ x.vv.ownBlock = some g) → ¬ (y.vr.ownBlock = some g ∨ y.vq.ownBlock = some g ∨ y.vv.ownBlock = some g)
structure OL (w : World) (b : Nat) (xs : List EntD) : Prop where
 own : ∀ x ∈ xs, O3 w b x
 ap : xs.Pairwise Dsj
structure GroO (w : World) (Bl B0 n : Nat) (pre : List EntD) (W : World) : Prop where
 gro : Gro w Bl B0 pre W
 len : pre.length ≤ n
 ol : OL W w.heap.size pre
end Go.Proofs.YtpabbnddeklpdaaGreat

namespace Go.Proofs.YtpabbnddeklpdaaGreat
open Go.RowKit Go.Shelf
set_option linter.unusedVariables false
set_option linter.unusedSimpArgs false
attribute [local go_sem] Oper.semAt_some

def AlE (w : World) (nb pB tB g : Nat) (X FO : Nat → Prop) (R : List EntD) (lv : Value) (f : Bool) (c : Nat → Nat) (C : Nat → Prop) (J : World → Prop) (dv : Value) (n : Nat) (W : World) : Prop := ∃ (X' FO' : Nat → Prop) (L' R' : List EntD) (lv' : Value), AlI w nb pB tB g X FO R lv f c C J dv n W X' FO' L' R' lv'
theorem AlE.turn {w W Z : World} {nb pB tB g n fn B : Nat} {lb : Array Value} {X FO : Nat → Prop} {R : List EntD} {lv dv : Value} {f : Bool} {c : Nat → Nat} {C : Nat → Prop} {J : World → Prop} (h : AlE w nb pB tB g X FO R lv f c C J dv n W) (hD : Doer pB tB g f fn lb c C J) (hB : w.heap.size ≤ B) (t : Turn B W Z) : AlE w nb pB tB g X FO R lv f c C J dv n Z := by
 obtain ⟨X', FO', L', R', lv', k⟩ := h
 exact ⟨X', FO', L', R', lv', k.turn hD hB t⟩
theorem O3.cellsAt {w : World} {b k : Nat} {D : EntD} (h : O3 w b D) (hk : D.blk k) : CellsAt w k := by
 rcases hk with q | q | q
 ·obtain ⟨_, cur, hg⟩ := own_at h.row.2 q
  exact ⟨_, hg, rfl⟩
 ·obtain ⟨_, cur, hg⟩ := own_at h.qual.2 q
  exact ⟨_, hg, rfl⟩
 ·obtain ⟨_, cur, hg⟩ := own_at h.val.2 q
  exact ⟨_, hg, rfl⟩
theorem AlB.set4 {W : World} {b g n : Nat} {dv lv : Value} (h : AlB W b g n dv lv) (m : Nat) : AlB (W.setCell ⟨b + 4, 0, none⟩ (.int .i64 (m : Int))) b g m dv lv := by
 have f : Fb W (W.setCell ⟨b + 4, 0, none⟩ (.int .i64 (m : Int))) (fun k => k = b + 4) := Fb.set1 (O := fun k => k = b + 4) rfl _
 have ne : ∀ i, i < 4 → ¬ (fun k => k = b + 4) (b + i) := fun i hi e => by have e' : b + i = b + 4 := e; omega
 exact ⟨h.b0.keep (f.block _ h.b0.lt (ne 0 (by omega))), h.b1.keep (f.block _ h.b1.lt (ne 1 (by omega))), h.b2.keep (f.block _ h.b2.lt (ne 2 (by omega))), h.b3.keep (f.block _ h.b3.lt (ne 3 (by omega))), h.b4.set _⟩
theorem AlI.round {w X0 Y Y2 Y3 : World} {nb pB tB g n fn s B B2 : Nat} {lb : Array Value} {X FO X' FO' FO2 X3 FO3 : Nat → Prop} {L R L' R' L3 R3 : List EntD} {lv lv' lv3 dv : Value} {f : Bool} {c : Nat → Nat} {C : Nat → Prop} {J : World → Prop} {x : EntD}
  (hD : Doer pB tB g f fn lb c C J) (hG : Gm w pB tB g X FO L R lv f) (hal : AlI w nb pB tB g X FO R lv f c C J dv n X0 X' FO' L' R' lv') (hbY : Below X0.heap.size X0 Y) (f2 : Fb Y Y2 (fun k => FO' k ∨ x.blk k)) (hf2 : ∀ k, FO2 k → FO' k ∨ x.blk k ∨ Y.heap.size ≤ k)
  (f3 : Fb Y2 Y3 (fun k => k = pB ∨ k = tB ∨ FO2 k)) (r3 : RC w Y3 nb pB tB g X FO X3 FO3 L3 R3 lv3 f ∧ RdX X Y3 lv R ∧ AlB Y3 w.heap.size g n dv lv ∧ J Y3 ∧ L3.length ≤ c (n + 1)) (ho : O3 X0 s x) (hs : nb ≤ s) (hB : w.heap.size + 5 ≤ B) (hnb : nb = B + 4) (hn : n + 1 ≤ R.length) (hC : ∀ k, C k → k < w.heap.size) :
  KeepsFrom B2 X0 (Y3.setCell ⟨w.heap.size + 4, 0, none⟩ (.int .i64 ((n + 1 : Nat) : Int))) ∧ KpO X B X0 (Y3.setCell ⟨w.heap.size + 4, 0, none⟩ (.int .i64 ((n + 1 : Nat) : Int))) ∧ AlE w nb pB tB g X FO R lv f c C J dv (n + 1) (Y3.setCell ⟨w.heap.size + 4, 0, none⟩ (.int .i64 ((n + 1 : Nat) : Int))) := by
 obtain ⟨rc3, rd3, al3, j3, l3⟩ := r3
 have hxb : ∀ k, x.blk k → s ≤ k ∧ k < X0.heap.size := fun k hk => ho.lt k hk
 have fs : Fb Y3 (Y3.setCell ⟨w.heap.size + 4, 0, none⟩ (.int .i64 ((n + 1 : Nat) : Int))) (fun k => k = w.heap.size + 4) := Fb.set1 (O := fun k => k = w.heap.size + 4) rfl _
 have ft : Fb X0 (Y3.setCell ⟨w.heap.size + 4, 0, none⟩ (.int .i64 ((n + 1 : Nat) : Int))) (fun k => k = pB ∨ k = tB ∨ FO' k ∨ x.blk k ∨ k = w.heap.size + 4) := by
  have t1 : Fb X0 Y2 (fun k => FO' k ∨ x.blk k) := (Fb.of_below hbY).trans' f2 hbY.size (fun i _ q => q)
  have t2 : Fb X0 Y3 (fun k => k = pB ∨ k = tB ∨ FO' k ∨ x.blk k) := (t1.mono (fun i _ q => .inr (.inr q))).trans' f3 t1.size (fun i hi q => by
   rcases q with q | q | q
   ·exact .inl q
   ·exact .inr (.inl q)
   ·rcases hf2 i q with q | q | q
    ·exact .inr (.inr (.inl q))
    ·exact .inr (.inr (.inr q))
    ·have := hbY.size; omega)
  refine (t2.mono (fun i _ q => ?_)).trans' fs t2.size (fun i _ q => .inr (.inr (.inr (.inr q))))
  rcases q with q | q | q | q
  ·exact .inl q
  ·exact .inr (.inl q)
  ·exact .inr (.inr (.inl q))
  ·exact .inr (.inr (.inr (.inl q)))
 have hplt := hG.pl.plt
 have htlt := hG.pl.tlt
 have hcells : ∀ k, (k = pB ∨ k = tB ∨ FO' k ∨ x.blk k ∨ k = w.heap.size + 4) → k < X0.heap.size → CellsAt X0 k := fun k hk _ => by
  rcases hk with rfl | rfl | q | q | rfl
  ·exact ⟨_, hal.1.gm.pl.box, rfl⟩
  ·obtain ⟨p, T, h1, _⟩ := hal.1.gm.pl.tab.tree
   exact ⟨_, h1, rfl⟩
  ·exact hal.1.gm.fc k q
  ·exact ho.cellsAt q
  ·exact hal.2.2.1.b4.cellsAt
 have hout : ∀ k, (k = pB ∨ k = tB ∨ FO' k ∨ x.blk k ∨ k = w.heap.size + 4) → ¬ X k ∧ ¬ (B ≤ k ∧ k < B + 4) := fun k hk => by
  rcases hk with rfl | rfl | q | q | rfl
  ·exact ⟨hG.pl.np, by omega⟩
  ·exact ⟨hG.pl.tab.not, by omega⟩
  ·rcases hal.1.nf k q with q | q
   ·exact ⟨fun z => hG.ap k (.inr (.inr z)) q, by have := (hG.fc k q).lt; omega⟩
   ·exact ⟨fun z => by have := hG.pl.lt k z; omega, by omega⟩
  ·have := hxb k q
   exact ⟨fun z => by have := hG.pl.lt k z; omega, by omega⟩
  ·exact ⟨fun z => by have := hG.pl.lt _ z; omega, by omega⟩
 refine ⟨keeps_of ft hcells, kpo_of ft hcells hout, X3, FO3, L3, R3, lv3, ⟨rc3.gm.keptC (H := fun k => k ≠ w.heap.size + 4) (KpC.of_fb fs (fun k hk q => hk q)) (fun k hk q => ?_) (fun k hk q => ?_), rc3.fb.trans' fs rc3.fb.size (fun i hi q => ?_), rc3.nx, rc3.nf⟩, rd3.keptC (KpC.of_fb fs (fun k hk q => ?_)), al3.set4 (n + 1), hD.keep _ _ j3 (KpC.of_fb fs (fun k hk q => ?_)), l3, hn⟩
 ·rcases hk with q1 | q1 | q1
  ·omega
  ·omega
  ·rcases rc3.nx k q1 with q2 | q2
   ·have := hG.pl.lt k q2; omega
   ·omega
 ·rcases rc3.nf k hk with q2 | q2
  ·have := (hG.fc k q2).lt; omega
  ·omega
 ·have q' : i = w.heap.size + 4 := q
  omega
 ·have q' : k = w.heap.size + 4 := q
  have := hG.pl.lt k hk; omega
 ·have q' : k = w.heap.size + 4 := q
  have := hC k hk; omega
theorem AlI.leave {w X0 : World} {nb pB tB g n fn D : Nat} {lb : Array Value} {X FO X' FO' : Nat → Prop} {L R L' R' : List EntD} {lv lv' dv : Value} {f : Bool} {c : Nat → Nat} {C : Nat → Prop} {J : World → Prop} {b : Bool} {q : Nat} {o : Obj}
  (hG : Gm w pB tB g X FO L R lv f) (hal : RC w X0 nb pB tB g X FO X' FO' L' R' lv' f) (hq : w.heap.size ≤ q ∧ q < nb) (hnb : w.heap.size ≤ nb) (hD : w.heap.size ≤ D) (hdf : X0.heap[D]? = some o) (ho : o.isCells = false) (hbq : Bxd X0 q 4 (.bool b)) (z : Bool) :
  ((X0.setCell ⟨q, 0, none⟩ (.bool z)).putObj D (.deferred none)).cell? ⟨q, 0, none⟩ = some (.bool z) ∧ Gm ((X0.setCell ⟨q, 0, none⟩ (.bool z)).putObj D (.deferred none)) pB tB g X' FO' L' R' lv' f ∧ GoTo w ((X0.setCell ⟨q, 0, none⟩ (.bool z)).putObj D (.deferred none)) pB tB X FO X' FO' := by
 have hqD : q ≠ D := fun e => by
  subst e
  have h1 : X0.heap[q]? = _ := hbq
  rw [hdf] at h1
  cases h1
  cases ho
 have fs : Fb X0 (X0.setCell ⟨q, 0, none⟩ (.bool z)) (fun k => k = q) := Fb.set1 (O := fun k => k = q) rfl _
 have fp : Fb (X0.setCell ⟨q, 0, none⟩ (.bool z)) ((X0.setCell ⟨q, 0, none⟩ (.bool z)).putObj D (.deferred none)) (fun k => k = D) := ⟨rfl, rfl, rfl, by simp, fun k _ hk => World.putObj_heap_other hk⟩
 have ft : Fb X0 ((X0.setCell ⟨q, 0, none⟩ (.bool z)).putObj D (.deferred none)) (fun k => k = q ∨ k = D) := (fs.mono (fun i _ e => .inl e)).trans (fp.mono (fun i _ e => .inr e))
 have hplt := hG.pl.plt
 have htlt := hG.pl.tlt
 have hd2 : (X0.setCell ⟨q, 0, none⟩ (.bool z)).heap[D]? = some o := (fs.block D (Array.getElem?_eq_some_iff.1 hdf).1 (fun e => hqD e.symm)).trans hdf
 refine ⟨(Bxd.keep (hbq.set (.bool z)) (fp.block q (hbq.set (.bool z)).lt hqD)).cell, (hal.gm.keptC (H := fun k => k ≠ q) (KpC.of_fb fs (fun k hk e => hk e)) (fun k hk e => ?_) (fun k hk e => ?_)).keptC (H := fun _ => True) (KpC.put _ hd2 ho) (fun _ _ => trivial) (fun _ _ => trivial), hal.fb.trans' ft hal.fb.size (fun i hi e => ?_), fun k hk => ?_, fun k hk => ?_⟩
 ·subst e
  rcases hk with h | h | h
  ·omega
  ·omega
  ·rcases hal.nx k h with h | h
   ·have := hG.pl.lt k h; omega
   ·omega
 ·subst e
  rcases hal.nf k hk with h | h
  ·have := (hG.fc k h).lt; omega
  ·omega
 ·omega
 ·rcases hal.nx k hk with h | h
  ·exact .inl h
  ·exact .inr (by omega)
 ·rcases hal.nf k hk with h | h
  ·exact .inl h
  ·exact .inr (by omega)
theorem bxd_new (W : World) (t : TypeId) (v : Value) : ∃ Y, Y = W.alloc (.cells #[v] t) ∧ Below W.heap.size W Y ∧ Y.heap.size = W.heap.size + 1 ∧ Bxd Y W.heap.size t v := ⟨_, rfl, (Below.refl _ _).alloc (Nat.le_refl _) _, by simp, Bxd.new W t v⟩
theorem al_start (w : World) (g tB : Nat) (dv lv : Value) : ∃ V, V = (((((w.alloc (.cells #[.pointer (some ⟨g, 0, none⟩)] 32)).alloc (.cells #[dv] 52)).alloc (.cells #[.bool false] 4)).alloc (.cells #[lv] 27)).alloc (.cells #[.int .i64 0] 3)).alloc (.cells #[.pointer (some ⟨tB, 0, none⟩)] 25) ∧ Below w.heap.size w V ∧ V.heap.size = w.heap.size + 6 ∧ AlB V w.heap.size g 0 dv lv ∧ V.heap[w.heap.size + 5]? = some (.cells #[.pointer (some ⟨tB, 0, none⟩)] 25 (0, 0)) := by
 obtain ⟨V1, e1, b1, s1, x1⟩ := bxd_new w 32 (.pointer (some ⟨g, 0, none⟩))
 obtain ⟨V2, e2, b2, s2, x2⟩ := bxd_new V1 52 dv
 obtain ⟨V3, e3, b3, s3, x3⟩ := bxd_new V2 4 (.bool false)
 obtain ⟨V4, e4, b4, s4, x4⟩ := bxd_new V3 27 lv
 obtain ⟨V5, e5, b5, s5, x5⟩ := bxd_new V4 3 (.int .i64 0)
 obtain ⟨V6, e6, b6, s6, x6⟩ := bxd_new V5 25 (.pointer (some ⟨tB, 0, none⟩))
 have h2 : V1.heap.size = w.heap.size + 1 := s1
 have h3 : V2.heap.size = w.heap.size + 2 := by omega
 have h4 : V3.heap.size = w.heap.size + 3 := by omega
 have h5 : V4.heap.size = w.heap.size + 4 := by omega
 have h6 : V5.heap.size = w.heap.size + 5 := by omega
 rw [h2] at x2; rw [h3] at x3; rw [h4] at x4; rw [h5] at x5; rw [h6] at x6
 have k56 := b6
 have k46 := b5.trans (b6.mono b5.size)
 have k36 := b4.trans (k46.mono b4.size)
 have k26 := b3.trans (k36.mono b3.size)
 have k16 := b2.trans (k26.mono b2.size)
 have k06 := b1.trans (k16.mono b1.size)
 exact ⟨V6, by rw [e6, e5, e4, e3, e2, e1], k06, by omega, ⟨x1.later8 k16, x2.later8 k26, x3.later8 k36, x4.later8 k46, x5.later8 k56⟩, x6⟩
set_option maxRecDepth 100000 in
set_option maxHeartbeats 8000000 in
theorem pall_any {w : World} {pB tB g : Nat} {X FO : Nat → Prop} {L R : List EntD} {lv : Value} {f : Bool} {fn : Nat} {lb : Array Value} {c : Nat → Nat} {C : Nat → Prop} {J : World → Prop} (h : Gm w pB tB g X FO L R lv f) (hD : Doer pB tB g f fn lb c C J) (hJ : J w) (hC : ∀ k, C k → k < w.heap.size ∧ ¬ PlB pB tB X k ∧ ¬ FO k) (hc : L.length ≤ c 0) (hsz : L.length < 100000) :
  Calls Tryz.prog 16 #[.pointer (some ⟨pB, 0, none⟩), .pointer (some ⟨g, 0, none⟩), .func (.func fn) #[] lb] w (PlP w pB tB g X FO (c R.length) f) := by
 obtain ⟨p, T, h1, h2, h3⟩ := h.pl.tab.tree
 have hlens := h.pl.tab.lens
 obtain ⟨am, cm, hlv⟩ := h.pl.ref.rd.slice
 obtain ⟨mz, hmz⟩ : ∃ mz, mz = R.length := ⟨_, rfl⟩
 rw [← hmz] at hlv
 subst hlv
 obtain ⟨V, hV, bV, sV, aV, tV⟩ := al_start w g tB (.func (.func fn) #[] lb) (.slice am mz cm)
 have hpc := h.pl.cells
 have hplt := h.pl.plt
 have HV := Lib.hid hV
 have HS := Lib.hid (And.intro h (And.intro hJ (And.intro hC (And.intro hc hsz))))
 have HM := Lib.hid hmz
 have HT := Lib.hid (And.intro h1 (And.intro h2 (And.intro h3 hlens)))
 have HB := Lib.hid (And.intro bV (And.intro sV (And.intro aV tV)))
 clear h hJ hC hc hsz hmz h1 h2 h3 hlens bV sV aV tV hV
 obtain ⟨c0, c1, c2⟩ := hpc
 have B3 : Below w.heap.size w (((w.alloc (.cells #[.pointer (some ⟨g, 0, none⟩)] 32)).alloc (.cells #[.func (.func fn) #[] lb] 52)).alloc (.cells #[.bool false] 4)) := (((Below.refl w.heap.size w).alloc (Nat.le_refl _) _).alloc (by simp) _).alloc (by simp; omega) _
 have B5 := (B3.alloc B3.size (.cells #[.slice am mz cm] 27))
 have B6 := B5.alloc B5.size (.cells #[.int .i64 0] 3)
 have d1 := (B3.cell (p := ⟨pB, 1, none⟩) hplt).trans c1
 have d0 := (B6.cell (p := ⟨pB, 0, none⟩) hplt).trans c0
 clear B3 B5 B6 c0 c1 c2
 refine (callsIn_wide (n := 9)).1 ?_
 refine callsIn_of_wp_marks Tryz.func16 rfl trivial ?_ rfl
 simp only [Tryz.ntmps16, List.size_toArray, List.length_cons, List.length_nil, Nat.reduceAdd, Nat.reduceSub, Array.replicate_succ, Array.replicate_zero, List.push_toArray, List.append_toArray, List.nil_append, List.cons_append]
 have hdd : ∀ k : Nat, (Fence.wide.depth.isSome = true → 1 ≤ k) := fun k h => by cases h
 have HA : Hid (∀ X, Calls Tryz.prog 21 #[.pointer (some ⟨tB, 0, none⟩)] X _) := fun X => all_any X _
 gi_wp2_with (refine ⟨trivial, ?_⟩; gi_at_call 21; refine (callsIn_wide.2 (HA.out _)).mono ?_; rintro e w' ⟨rfl, rfl⟩)
 rw [← HV.out]
 simp only [Nat.add_assoc, Nat.reduceAdd]
 obtain ⟨hG0, hJ0, hC0, hc0, hsz0⟩ := HS.out
 obtain ⟨bV, sV, aV, tV⟩ := HB.out
 obtain ⟨h1, h2, h3, hlens⟩ := HT.out
 have hGV := hG0.later bV
 have hb2 : TBox V tB p _ _ f := h1.later bV
 have hT2 : IsT X V p T := h2.keptC (KpC.of_below bV)
 clear d0 d1 HA
 refine range_o (w := V) rfl (enters_of Tryz.func40 (by kernel_rfl) rfl) (encs := fun x : EntD => #[.agg x.cells]) (all_seqO tV hb2 hT2 (by rw [h3]; exact hlens)) (fun h k => h.trans k) (fun X o o' ho hc => KpO.put o o' (by omega) ho hc) (fun _ => rfl)
  (fun pre W => V.heap.size ≤ W.heap.size ∧ AlE w (w.heap.size + 12) pB tB g X FO R (.slice am mz cm) f c C J (.func (.func fn) #[] lb) pre.length W)
  (fun c pre X => False)
  (fun s X h => h.1)
  (fun s W Z hW h tu => ⟨Nat.le_trans h.1 tu.below.size, h.2.turn hD (by omega) tu⟩)
  (fun c s W Z hW h tu => h)
  ⟨Nat.le_refl _, X, FO, L, R, _, ⟨⟨hGV, Fb.of_below bV, fun k hk => .inl hk, fun k hk => .inl hk⟩, hGV.pl.ref, aV, hD.keep _ _ hJ0 (KpC.of_below bV), hc0, Nat.zero_le _⟩⟩
  (fun pre x a' W => ∃ Bx s X' FO' L' R' lv', AlI w (w.heap.size + 12) pB tB g X FO R (.slice am mz cm) f c C J (.func (.func fn) #[] lb) pre.length W X' FO' L' R' lv' ∧ EBox W Bx x ∧ w.heap.size + 12 ≤ Bx ∧ NxC T.ord (V.heap.size + 2) pre x W ∧ O3 W s x ∧ (w.heap.size + 12 ≤ s ∧ (∀ k, X' k → k < s) ∧ (∀ k, FO' k → k < s)) ∧ a' = { tmps := #[.pointer (some ⟨pB, 0, none⟩), .pointer (some ⟨g, 0, none⟩), .func (.func fn) #[] lb, undef, .pointer (some ⟨w.heap.size, 0, none⟩), .pointer (some ⟨w.heap.size + 1, 0, none⟩), .pointer (some ⟨w.heap.size + 2, 0, none⟩), .pointer (some ⟨w.heap.size + 3, 0, none⟩), .pointer (some ⟨w.heap.size + 4, 0, none⟩), .pointer (some ⟨Bx, 0, none⟩), .pointer (some ⟨pB, 0, none⟩), .pointer (some ⟨pB, 0, none⟩), .pointer (some ⟨pB, 1, none⟩), .pointer (some ⟨pB, 1, none⟩), .slice am mz cm, .pointer (some ⟨pB, 0, none⟩), .pointer (some ⟨pB, 0, none⟩), .pointer (some ⟨pB, 0, none⟩), .pointer (some ⟨tB, 0, none⟩), .func (.func 40) #[] #[.pointer (some ⟨w.heap.size + 5, 0, none⟩)], .agg x.cells, undef, undef, undef, undef, undef, undef, undef, undef, undef, undef, undef, undef, undef, undef, undef, undef, undef, undef, undef, undef, undef, undef, undef, undef, undef, undef], defers := [] })
  (fun pre x a' _ W Z hW ⟨Bx, s, X', FO', L', R', lv', k0, k1, k2, k3, k4, k5, k6⟩ tu => ⟨Bx, s, X', FO', L', R', lv', k0.turn hD (by omega) tu, tu.cells _ _ k1 rfl, k2, ⟨Nat.le_trans k3.1 tu.below.size, k3.2.1, k3.2.2.keptC tu.toC⟩, k4.turn tu, k5, k6⟩)
  ?assign ?body ?done ?stop (fun c s X h => h.elim)
 case assign =>
  intro l' pre x Wp X0 K hip hi hsX hgd0 hK
  obtain ⟨hnx, ho3, hbe, hB4⟩ := hgd0
  obtain ⟨X', FO', L', R', lv', k⟩ := hip.2
  have hlt1 := k.1.gm.pl.lt
  have hlt2 := fun i hi => (k.1.gm.fc i hi).lt
  have hsX' : w.heap.size + 12 ≤ X0.heap.size := by have := hnx.1; omega
  obtain ⟨vr, fam, vq, ts, seq, kind, vv, row, qual, val⟩ := x
  have r1 : Rd X0 vr row := hnx.2.2.1.1
  have r2 : Rd X0 vq qual := hnx.2.2.2.1.1
  have r3 : Rd X0 vv val := hnx.2.2.2.2.1
  obtain ⟨ar, nr, cr, rfl⟩ := rd_slice r1
  obtain ⟨aq, nq, cq, rfl⟩ := rd_slice r2
  obtain ⟨av, nv, cv, rfl⟩ := rd_slice r3
  have hbb := (Below.refl X0.heap.size X0).alloc (Nat.le_refl _) (.cells (EntD.mk (.slice ar nr cr) fam (.slice aq nq cq) ts seq kind (.slice av nv cv) row qual val).cells 38)
  have tu := Turn.of (B := V.heap.size) hbb (by omega)
  have HAx := Lib.hid (And.intro ((k.later hD hbe).later hD hbb) (And.intro (EBox.new X0 (EntD.mk (.slice ar nr cr) fam (.slice aq nq cq) ts seq kind (.slice av nv cv) row qual val)) (And.intro (show NxC T.ord (V.heap.size + 2) pre (EntD.mk (.slice ar nr cr) fam (.slice aq nq cq) ts seq kind (.slice av nv cv) row qual val) (X0.alloc (.cells (EntD.mk (.slice ar nr cr) fam (.slice aq nq cq) ts seq kind (.slice av nv cv) row qual val).cells 38)) from ⟨Nat.le_trans hnx.1 tu.below.size, hnx.2.1, hnx.2.2.keptC tu.toC⟩) (ho3.turn tu))))
  have HT9 := Lib.hid (show KpO X (V.heap.size + 2) X0 (X0.alloc (.cells (EntD.mk (.slice ar nr cr) fam (.slice aq nq cq) ts seq kind (.slice av nv cv) row qual val).cells 38)) from ⟨tu.toC, Oth.of hbb⟩)
  have HI := Lib.hid (And.intro (Nat.le_trans hi.1 tu.below.size) (hi.2.turn hD (B := V.heap.size) (by omega) tu))
  have HL1 := Lib.hid hlt1
  have HL2 := Lib.hid hlt2
  clear hbb tu hi hip hnx ho3 hbe r1 r2 r3 k hlt1 hlt2
  simp only [EntD.cells] at *
  gi_wp2
  exact hK _ _ ((KeepsOthers.alloc _ _).from _) HT9.out HI.out ⟨X0.heap.size, Wp.heap.size, X', FO', L', R', lv', HAx.out.1, HAx.out.2.1, hsX', HAx.out.2.2.1, HAx.out.2.2.2, ⟨by omega, HL1.out, HL2.out⟩, rfl⟩
 case body =>
  rintro l' pre x a' X0 - ⟨Bx, s, X', FO', L', R', lv', hal, hbx, hBx, hnx, ho3, ⟨hs1, hs2, hs3⟩, rfl⟩
  obtain ⟨n, hn⟩ : ∃ n, n = pre.length := ⟨_, rfl⟩
  rw [← hn] at hal
  have hsm := hG0.pl.sm
  obtain ⟨q, hq1, hq2⟩ := hnx.2.1
  have e1 := hq2.len
  have e2 := hq1.length_le
  rw [h3] at e2 hq1
  have e3 := hsm.len
  simp only [List.length_append, List.length_cons, List.length_nil] at e1
  have hnm : n < mz := by have := HM.out; omega
  obtain ⟨y, hy⟩ : ∃ y, R[n]? = some y := ⟨R[n]'(by have := HM.out; omega), by simp⟩
  have hxy : EntD.Same x y ∧ checkS x = 0 := by
   obtain ⟨x1, z1, k1, k2, k3⟩ := hq2.at (i := n) (by simp; omega)
   obtain ⟨y1, z2, k4, k5, k6⟩ := hsm.at (i := n) (by have := HM.out; omega)
   have kx : x1 = x := by
    rw [hn] at k1
    simpa using k1.symm
   obtain ⟨t, ht⟩ := hq1
   have kz : L[n]? = some z1 := by
    rw [← ht, List.getElem?_append_left (by omega)]
    exact k2
   rw [kz] at k5
   cases k5
   rw [hy] at k4
   cases k4
   subst kx
   exact ⟨same_cross k3 k6, lens_good hG0.pl.tab.good k3 (List.mem_of_getElem? kz)⟩
  obtain ⟨a0, cap0, ea, -, -, -, -, h5⟩ := hal.2.1.rd
  obtain ⟨hyok, bz, oz, eb, hcs⟩ := h5 n y hy
  have eam : am = some ⟨bz, oz, none⟩ := by
   injection ea with e4
   rw [e4, eb]
  clear h5 ea eb
  subst eam
  have HSe : Hid (∀ Z, Below X0.heap.size X0 Z → Calls Tryz.prog 11 #[.agg #[x.vr, .int .i64 x.fam, x.vq, .int .i64 x.ts, .int .i64 x.seq, .int .i64 x.kind, x.vv], .agg #[y.vr, .int .i64 y.fam, y.vq, .int .i64 y.ts, .int .i64 y.seq, .int .i64 y.kind, y.vv]] Z fun r w' => r = .returned (.bool true) ∧ Below Z.heap.size Z w') := fun Z b => by
   refine (se_any (hnx.2.2.ok.later b) (hyok.later b)).mono ?_
   rintro r w' ⟨rfl, hb⟩
   exact ⟨by rw [decide_eq_true hxy.1], hb⟩
  have kc := hal.2.2.1.b4.cell
  have wc := hal.2.2.1.b3.cell
  have xc := hbx.cells7
  have HAL := Lib.hid hal
  have HX := Lib.hid (And.intro hbx (And.intro ho3 (And.intro hnx (And.intro hBx (And.intro hs1 (And.intro hs2 hs3))))))
  have HN := Lib.hid hn
  have HXY := Lib.hid hxy
  clear hal hbx hnx ho3 hBx hs1 hs2 hs3 hq1 hq2 e1 e2 e3 hsm hn hxy hyok hy
  gi_wp2_with fail
  refine wpIn_eq8 _ (pall5_region hnm ⟨kc, wc, xc, hcs⟩ HSe) ?_
  intro Y hbY
  have halY := HAL.out.later hD hbY
  have hbxY := HX.out.1.later hbY
  have hsY : w.heap.size + 12 ≤ Y.heap.size := by have := hbY.size; have := HX.out.2.2.1.1; omega
  have hxb : ∀ k, x.blk k → s ≤ k ∧ k < X0.heap.size := fun k hk => HX.out.2.1.lt k hk
  have HFe := Lib.hid (fentry_any halY.1.gm.fu ((HX.out.2.1.later hbY).e3 HXY.out.2) (fun k hk hf => by have := (hxb k hk).1; have := HX.out.2.2.2.2.2.2 k hf; omega))
  unfold EntD.cells at HFe
  have gc := halY.2.2.1.b0.cell
  obtain ⟨p0, p1, p2, p3, p4, p5, p6⟩ := hbxY.cells7
  have HY := Lib.hid (And.intro halY (And.intro hbY (And.intro hsY hxb)))
  clear halY hbxY hsY hxb hbY kc wc xc hcs HSe
  gi_wp2_with fail
  refine ⟨trivial, ?_⟩
  refine (CallsIn.inRound l' (callsIn_wide.2 HFe.out)).mono ?_
  rintro z Y2 ⟨⟨vv, rfl⟩, fu2, f2⟩
  obtain ⟨FO2, hal2, hf2⟩ := HY.out.1.full (x := x) (s := s) hD hG0 (by omega) HY.out.2.2.1 (fun k hk => ⟨(hC0 k hk).1, (hC0 k hk).2.2⟩) fu2 (f2.mono (fun i _ q => q)) (fun k hk => (HY.out.2.2.2 k hk).1) ⟨HX.out.2.2.2.2.1, HX.out.2.2.2.2.2.1⟩ (fun k hk => by
   rcases hk with q | q | q
   ·exact .inl q
   ·exact .inr (.inl q)
   ·exact .inr (.inr q.1))
  have hsY2 : w.heap.size + 12 ≤ Y2.heap.size := Nat.le_trans HY.out.2.2.1 f2.size
  have hdo := hD.does n Y2 X' FO2 L' R' lv' hal2.2.2.2.1 hal2.1.gm (fun k hk => by
   have hk0 := hC0 k hk
   refine ⟨fun q => ?_, fun q => ?_⟩
   ·rcases q with q | q | q
    ·exact hk0.2.1 (.inl q)
    ·exact hk0.2.1 (.inr (.inl q))
    ·rcases hal2.1.nx k q with q | q
     ·exact hk0.2.1 (.inr (.inr q))
     ·omega
   ·rcases hal2.1.nf k q with q | q
    ·exact hk0.2.2 q
    ·omega) hal2.2.2.2.2.1
  have HDo := Lib.hid hdo
  have hen := hD.enters
  have kc := hal2.2.2.1.b4.cell
  have dc := hal2.2.2.1.b1.cell
  have H2 := Lib.hid (And.intro hal2 (And.intro hf2 (And.intro f2 hsY2)))
  clear hal2 hf2 f2 fu2 hsY2 hdo HFe p0 p1 p2 p3 p4 p5 p6 gc
  gi_wp2_with fail
  refine ⟨trivial, ?_⟩
  refine (CallsIn.inRound l' (callsIn_wide.2 HDo.out)).mono ?_
  rintro z Y3 hpl
  obtain rfl : z = .returned (.bool true) := hpl.1
  obtain ⟨X3, FO3, L3, R3, lv3, ⟨rc3, rd3, al3, j3, l3⟩, f3⟩ := H2.out.1.did hD hG0 (by omega) H2.out.2.2.2 hC0 hpl
  have kc := al3.b4.cell
  have kf := al3.b4.fz
  have hn100 : n < 100000 := by have := hG0.pl.sm.len; have := HM.out; omega
  have HWn : Hid (IntKind.i64.wrap ((n : Int) + 1) = ((n + 1 : Nat) : Int)) := by
   have := wrap_ok ((n : Int) + 1) (by omega) (by omega)
   unfold Hid; rw [this]; simp
  have H3 := Lib.hid (And.intro rc3 (And.intro rd3 (And.intro al3 (And.intro j3 (And.intro l3 f3)))))
  clear rc3 rd3 al3 j3 l3 f3 hpl HDo hen dc
  gi_wp2
  have hrd := AlI.round (B := V.heap.size + 2) (B2 := V.heap.size) hD hG0 HAL.out HY.out.2.1 H2.out.2.2.1 H2.out.2.1 H3.out.2.2.2.2.2 ⟨H3.out.1, H3.out.2.1, H3.out.2.2.1, H3.out.2.2.2.1, H3.out.2.2.2.2.1⟩ HX.out.2.1 HX.out.2.2.2.2.1 (by omega) (by omega) (by have := HM.out; omega) (fun k hk => (hC0 k hk).1)
  have hlen : (pre ++ [x]).length = n + 1 := by rw [List.length_append, ← HN.out]; rfl
  have ecast : (n : Int) + 1 = ((n + 1 : Nat) : Int) := by simp
  rw [ecast]
  refine ⟨hrd.1, hrd.2.1, by have := H2.out.2.2.2; have := H3.out.2.2.2.2.2.size; rw [World.size_setCell]; omega, ?_⟩
  rw [hlen]
  exact hrd.2.2
 case done =>
  rintro D xs X0 hDd hsmx ⟨hsz, X', FO', L', R', lv', hal⟩ hdf
  have e1 := hsmx.len
  have e2 := hG0.pl.sm.len
  rw [h3] at e1
  have hxs : xs.length = mz := by have := HM.out; omega
  rw [hxs] at hal
  have kc := hal.2.2.1.b4.cell
  have wc := hal.2.2.1.b3.cell
  have rc := hal.2.2.1.b2.cell
  have rf := hal.2.2.1.b2.fz
  have HAL := Lib.hid hal
  have HDf := Lib.hid hdf
  clear hal hdf hxs e1 e2 hsmx
  gi_wp2
  obtain ⟨q1, q2, q3⟩ := AlI.leave (X0 := X0) (D := D) (c := c) (C := C) (J := J) (fn := fn) (lb := lb) (dv := .func (.func fn) #[] lb) (n := mz) hG0 HAL.out.1 (q := w.heap.size + 2) ⟨by omega, by omega⟩ (by omega) (by omega) HDf.out rfl HAL.out.2.2.1.b2 true
  have hdf' : (X0.setCell ⟨w.heap.size + 2, 0, none⟩ (.bool true)).heap[D]? = some (.deferred (some [])) := (Below.heap_setCell _ _ _ _ (show D ≠ w.heap.size + 2 by omega)).trans HDf.out
  refine ⟨by simp, .inl ⟨_, _, rfl, run_takeDeferred hdf', ?_⟩⟩
  exact ⟨.bool true, by simp [results, Tryz.results16, go_sem, q1], rfl, X', FO', L', R', lv', q2, q3, by have := HAL.out.2.2.2.2.1; rw [← HM.out]; exact this⟩
 case stop =>
  rintro D c pre X hD hsp h hdf
  exact h.elim
end Go.Proofs.YtpabbnddeklpdaaGreat

namespace Go.Proofs.YtpabbnddeklpdaaGreat
open Go.RowKit Go.Shelf
set_option linter.unusedVariables false

set_option maxRecDepth 100000 in
set_option maxHeartbeats 4000000 in
theorem refFrom2_any {w : World} {lv : Value} {L : List EntD} {f : Bool} {e : EntD} (hl : RdL w lv L) (he : EntD.Ok w e) :
  Calls Tryz.prog 10 #[.agg #[lv, .bool f], .agg e.cells] w fun z w' => ∃ v, z = .returned v ∧ RdL w' v (L.dropWhile (fun y => decide (compareS y e < 0))) ∧ (∀ k, v.ownBlock = some k → lv.ownBlock = some k) ∧ Below w.heap.size w w' := by
 have HL := Lib.hid hl
 have A1 := (Below.refl w.heap.size w).alloc (Nat.le_refl _) (.cells #[lv, .bool f] 29)
 have A2 := A1.alloc A1.size (.cells e.cells 38)
 have bt := (RBx.new w lv f).later ((Below.refl _ (w.alloc (.cells #[lv, .bool f] 29))).alloc (Nat.le_refl _) (.cells e.cells 38))
 have be := EBox.new (w.alloc (.cells #[lv, .bool f] 29)) e
 rw [World.size_alloc] at be
 obtain ⟨a, ca, rfl, a1, a2, a3, -, a4⟩ := hl
 obtain ⟨n, hn⟩ : ∃ n, n = L.length := ⟨_, rfl⟩
 rw [← hn] at a1 a3 HL A1 A2 bt be ⊢
 have HN : Hid (L.length = n) := hn.symm
 have HA4 := Lib.hid a4
 have HE := Lib.hid he
 obtain ⟨V, hV⟩ : ∃ V, V = (w.alloc (.cells #[.slice a n ca, .bool f] 29)).alloc (.cells e.cells 38) := ⟨_, rfl⟩
 rw [← hV] at A2 bt be
 have HV : Hid (V = _) := hV
 unfold EntD.cells at HV
 have HA2 := Lib.hid A2
 have c0 := bt.c0
 have KB : Hid (∀ wx, Below V.heap.size V wx → wx.cell? ⟨w.heap.size, 0, none⟩ = some (.slice a n ca) ∧ wx.cell? ⟨w.heap.size + 1, 0, none⟩ = some e.vr ∧ wx.cell? ⟨w.heap.size + 1, 1, none⟩ = some (.int .i64 e.fam) ∧ wx.cell? ⟨w.heap.size + 1, 2, none⟩ = some e.vq ∧ wx.cell? ⟨w.heap.size + 1, 3, none⟩ = some (.int .i64 e.ts) ∧ wx.cell? ⟨w.heap.size + 1, 4, none⟩ = some (.int .i64 e.seq) ∧ wx.cell? ⟨w.heap.size + 1, 5, none⟩ = some (.int .i64 e.kind) ∧ wx.cell? ⟨w.heap.size + 1, 6, none⟩ = some e.vv) := fun wx b => by
  have k1 := bt.later b
  have k2 := be.later b
  exact ⟨k1.c0, k2.vr, k2.fam, k2.vq, k2.ts, k2.seq, k2.kind, k2.vv⟩
 clear hn a4 he hV A1 A2 bt be c0
 unfold EntD.cells
 go_enter Tryz.func10, Tryz.ntmps10
 go_wp2
 rw [← HV.out]
 go_loopw [5] (fun i wr => ∃ t : Nat, t ≤ n ∧ i = .int .i64 (t : Int) ∧ Hid (∀ y ∈ L.take t, compareS y e < 0) ∧ Below V.heap.size V wr) (fun i _ => n - (intOf i).toNat)
 case atStart => exact ⟨0, by omega, rfl, (fun y hy => by simp at hy), Below.refl _ _⟩
 case round =>
  obtain ⟨t, htn, rfl, HT, hbk⟩ := hrel
  have HBK := Lib.hid hbk
  obtain ⟨c0, d0, d1, d2, d3, d4, d5, d6⟩ := KB.out _ hbk
  by_cases h1 : t < n
  ·have h1' : (t : Int) < (n : Int) := by omega
   have ht0 : (0 : Int) ≤ (t : Int) := by omega
   obtain ⟨x, hx⟩ : ∃ x, L[t]? = some x := ⟨L[t]'(by rw [HN.out]; exact h1), by simp⟩
   obtain ⟨ox, ba, oa, rfl, cx⟩ := HA4.out t x hx
   have KS : Hid (∀ wx, Below wr.heap.size wr wx → (wx.cell? ⟨w.heap.size, 0, none⟩ = some (.slice (some ⟨ba, oa, none⟩) n ca) ∧ wx.cell? ⟨w.heap.size + 1, 0, none⟩ = some e.vr ∧ wx.cell? ⟨w.heap.size + 1, 1, none⟩ = some (.int .i64 e.fam) ∧ wx.cell? ⟨w.heap.size + 1, 2, none⟩ = some e.vq ∧ wx.cell? ⟨w.heap.size + 1, 3, none⟩ = some (.int .i64 e.ts) ∧ wx.cell? ⟨w.heap.size + 1, 4, none⟩ = some (.int .i64 e.seq) ∧ wx.cell? ⟨w.heap.size + 1, 5, none⟩ = some (.int .i64 e.kind) ∧ wx.cell? ⟨w.heap.size + 1, 6, none⟩ = some e.vv) ∧ (wx.cell? ⟨ba, oa + t * 7, none⟩ = some x.vr ∧ wx.cell? ⟨ba, oa + t * 7 + 1, none⟩ = some (.int .i64 x.fam) ∧ wx.cell? ⟨ba, oa + t * 7 + 2, none⟩ = some x.vq ∧ wx.cell? ⟨ba, oa + t * 7 + 3, none⟩ = some (.int .i64 x.ts) ∧ wx.cell? ⟨ba, oa + t * 7 + 4, none⟩ = some (.int .i64 x.seq) ∧ wx.cell? ⟨ba, oa + t * 7 + 5, none⟩ = some (.int .i64 x.kind) ∧ wx.cell? ⟨ba, oa + t * 7 + 6, none⟩ = some x.vv)) := fun wx b => by
    have k := (HBK.out.trans (b.mono HBK.out.size))
    exact ⟨KB.out _ k, cx.later (HA2.out.trans (k.mono HA2.out.size))⟩
   have HC : Hid (∀ Z, Below wr.heap.size wr Z → Calls Tryz.prog 34 #[.agg #[x.vr, .int .i64 x.fam, x.vq, .int .i64 x.ts, .int .i64 x.seq, .int .i64 x.kind, x.vv], .agg #[e.vr, .int .i64 e.fam, e.vq, .int .i64 e.ts, .int .i64 e.seq, .int .i64 e.kind, e.vv]] Z fun r w' => r = .returned (.int .i64 (compareS x e)) ∧ Below Z.heap.size Z w') := fun Z hZ => by
    have k := (HBK.out.trans (hZ.mono HBK.out.size))
    have k2 := HA2.out.trans (k.mono HA2.out.size)
    exact refCompare_any (ox.later k2) (HE.out.later k2)
   have HX : Hid (compareS x e < 0 → ∀ y ∈ L.take (t + 1), compareS y e < 0) := fun hc y hy => by
    rcases mem_take_succ hx hy with h | rfl
    ·exact HT.out y h
    ·exact hc
   have HD : Hid (¬ compareS x e < 0 → L.dropWhile (fun y => decide (compareS y e < 0)) = L.drop t) := fun hc => drop_while (fun y hy => by simpa using HT.out y hy) hx (by simpa using hc)
   obtain ⟨cc, hcc⟩ : ∃ cc, cc = compareS x e := ⟨_, rfl⟩
   rw [← hcc] at HC HX HD
   have D0 : Below wr.heap.size wr wr.drew := (Below.refl _ _).drew
   clear hx ox cx hbk hcc HT
   by_cases hcz : cc < 0
   ·have hd : ¬ (0 : Int) ≤ cc := by omega
    go_wp2_with fail
    go_region_held3 (fun wx => (wx.cell? ⟨w.heap.size, 0, none⟩ = some (.slice (some ⟨ba, oa, none⟩) n ca) ∧ wx.cell? ⟨w.heap.size + 1, 0, none⟩ = some e.vr ∧ wx.cell? ⟨w.heap.size + 1, 1, none⟩ = some (.int .i64 e.fam) ∧ wx.cell? ⟨w.heap.size + 1, 2, none⟩ = some e.vq ∧ wx.cell? ⟨w.heap.size + 1, 3, none⟩ = some (.int .i64 e.ts) ∧ wx.cell? ⟨w.heap.size + 1, 4, none⟩ = some (.int .i64 e.seq) ∧ wx.cell? ⟨w.heap.size + 1, 5, none⟩ = some (.int .i64 e.kind) ∧ wx.cell? ⟨w.heap.size + 1, 6, none⟩ = some e.vv) ∧ (wx.cell? ⟨ba, oa + t * 7, none⟩ = some x.vr ∧ wx.cell? ⟨ba, oa + t * 7 + 1, none⟩ = some (.int .i64 x.fam) ∧ wx.cell? ⟨ba, oa + t * 7 + 2, none⟩ = some x.vq ∧ wx.cell? ⟨ba, oa + t * 7 + 3, none⟩ = some (.int .i64 x.ts) ∧ wx.cell? ⟨ba, oa + t * 7 + 4, none⟩ = some (.int .i64 x.seq) ∧ wx.cell? ⟨ba, oa + t * 7 + 5, none⟩ = some (.int .i64 x.kind) ∧ wx.cell? ⟨ba, oa + t * 7 + 6, none⟩ = some x.vv)) (first | exact KS.out _ D1 | exact KS.out _ D0) ((go_at_call 34; refine Calls.mono (HC.out _ D0) ?_; rintro e1 w1 ⟨rfl, hb1⟩; have D1 := D0.trans (hb1.mono D0.size)))
    go_wp2
    go_roundw
    case rel => exact ⟨t + 1, by omega, by go_num, HX.out hcz, HBK.out.trans (D1.mono HBK.out.size)⟩
    case measure => simp [intOf]; omega
   ·have hd : (0 : Int) ≤ cc := by omega
    have htn' : (t : Int) ≤ (n : Int) := by omega
    have htc' : (t : Int) ≤ (ca : Int) := by omega
    have hnc' : (n : Int) ≤ (ca : Int) := by omega
    go_wp2_with fail
    go_region_held3 (fun wx => (wx.cell? ⟨w.heap.size, 0, none⟩ = some (.slice (some ⟨ba, oa, none⟩) n ca) ∧ wx.cell? ⟨w.heap.size + 1, 0, none⟩ = some e.vr ∧ wx.cell? ⟨w.heap.size + 1, 1, none⟩ = some (.int .i64 e.fam) ∧ wx.cell? ⟨w.heap.size + 1, 2, none⟩ = some e.vq ∧ wx.cell? ⟨w.heap.size + 1, 3, none⟩ = some (.int .i64 e.ts) ∧ wx.cell? ⟨w.heap.size + 1, 4, none⟩ = some (.int .i64 e.seq) ∧ wx.cell? ⟨w.heap.size + 1, 5, none⟩ = some (.int .i64 e.kind) ∧ wx.cell? ⟨w.heap.size + 1, 6, none⟩ = some e.vv) ∧ (wx.cell? ⟨ba, oa + t * 7, none⟩ = some x.vr ∧ wx.cell? ⟨ba, oa + t * 7 + 1, none⟩ = some (.int .i64 x.fam) ∧ wx.cell? ⟨ba, oa + t * 7 + 2, none⟩ = some x.vq ∧ wx.cell? ⟨ba, oa + t * 7 + 3, none⟩ = some (.int .i64 x.ts) ∧ wx.cell? ⟨ba, oa + t * 7 + 4, none⟩ = some (.int .i64 x.seq) ∧ wx.cell? ⟨ba, oa + t * 7 + 5, none⟩ = some (.int .i64 x.kind) ∧ wx.cell? ⟨ba, oa + t * 7 + 6, none⟩ = some x.vv)) (first | exact KS.out _ D1 | exact KS.out _ D0) ((go_at_call 34; refine Calls.mono (HC.out _ D0) ?_; rintro e1 w1 ⟨rfl, hb1⟩; have D1 := D0.trans (hb1.mono D0.size); have c1 := (KB.out _ (HBK.out.trans (D1.mono HBK.out.size))).1))
    go_wp2
    go_ret
    have k := HBK.out.trans (D1.mono HBK.out.size)
    have k2 := HA2.out.trans (k.mono HA2.out.size)
    refine ⟨_, rfl, ?_, (by intro k hk; first | exact hk | (simp only [Value.ownBlock] at hk ⊢; exact hk)), k2⟩
    rw [HD.out (by first | exact hcz | exact Int.not_lt.1 hcz)]
    have := (HL.out.later k2).drop (t := t) htn
    first | exact this | go_num
  ·have h1' : (n : Int) ≤ (t : Int) := by omega
   have HZ : Hid (L.dropWhile (fun y => decide (compareS y e < 0)) = []) := dropWhile_all (fun y hy => by
    have := HT.out y (by rw [List.take_of_length_le (by rw [HN.out]; omega)]; exact hy)
    simpa using this)
   clear HT
   go_wp2
   go_ret
   exact ⟨_, rfl, by rw [HZ.out]; exact RdL.nil _, (fun k hk => by cases hk), HA2.out.trans (HBK.out.mono HA2.out.size)⟩
end Go.Proofs.YtpabbnddeklpdaaGreat
