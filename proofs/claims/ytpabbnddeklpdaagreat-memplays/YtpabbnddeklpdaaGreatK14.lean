import Derived.Test.YtpabbnddeklpdaaGreatK13
namespace Go.Proofs.YtpabbnddeklpdaaGreat
open Go.RowKit Go.Shelf
set_option linter.unusedVariables false
set_option linter.unusedSimpArgs false
attribute [local go_sem] Oper.semAt_some

section
variable {P : Program} {ops : Array Oper} {Q : Exit → Act → World → Prop} {md : Region.Mode} {S : World → Prop} {E : Nat → Bool}
theorem AnyE.threeF {i j m : Nat} {oi oj om : Oper} {fuel : Nat} {listed : Array Bool} {a : Act} {w : World} (hi : ops[i]? = some oi) (hj : ops[j]? = some oj) (hm : ops[m]? = some om) (hr : Region.ready md ops listed = [i, j, m]) (hwi : Region.wanted oi (yielded ops a.tmps) = true) (hwj : Region.wanted oj (yielded ops a.tmps) = true) (hwm : Region.wanted om (yielded ops a.tmps) = true)
  (h1 : ∀ K : Act → World → Prop, Hid (∀ a' w', ((E i = true → S w') ∧ AnyE P md ops Q S E fuel (listed.setIfInBounds i true) a' w') → K a' w') → Oper.wp P oi a w K Q)
  (h2 : ∀ K : Act → World → Prop, Hid (∀ a' w', ((E j = true → S w') ∧ AnyE P md ops Q S E fuel (listed.setIfInBounds j true) a' w') → K a' w') → Oper.wp P oj a w K Q)
  (h3 : ∀ K : Act → World → Prop, Hid (∀ a' w', ((E m = true → S w') ∧ AnyE P md ops Q S E fuel (listed.setIfInBounds m true) a' w') → K a' w') → Oper.wp P om a w K Q) : AnyE P md ops Q S E (fuel + 1) listed a w :=
 ⟨fun k => (by rw [hr] at k; cases k), fun n hn => by
  rw [hr] at hn
  rcases List.mem_cons.1 hn with rfl | hn
  ·exact wpOp_step hi (fun K' hK => by rw [if_pos hwi]; exact h1 K' hK)
  ·rcases List.mem_cons.1 hn with rfl | hn
   ·exact wpOp_step hj (fun K' hK => by rw [if_pos hwj]; exact h2 K' hK)
   ·obtain rfl : n = m := by simpa using hn
    exact wpOp_step hm (fun K' hK => by rw [if_pos hwm]; exact h3 K' hK)⟩
end
structure Md (Z : World) (x D : EntD) (lo hi : Nat) : Prop where
 sm : EntD.Same D x.cut
 ld : LaidE Z lo D
 ap : ApE D
 bl : ∀ k, D.blk k → lo ≤ k ∧ k < hi
theorem Md.later {Z Z' : World} {x D : EntD} {lo hi : Nat} (h : Md Z x D lo hi) (b : Below Z.heap.size Z Z') : Md Z' x D lo hi := ⟨h.sm, h.ld.later b, h.ap, h.bl⟩
theorem Md.new {Z Z' : World} {x D : EntD} (hs : EntD.Same D x.cut) (hl : LaidE Z' Z.heap.size D) (ha : ApE D) : Md Z' x D Z.heap.size Z'.heap.size := ⟨hs, hl, ha, fun k hk => by
 rcases hk with h | h | h
 ·exact hl.1.own_lt k h
 ·exact hl.2.1.own_lt k h
 ·exact hl.2.2.own_lt k h⟩
theorem Laid.fbL {w w' : World} {B : Nat} {u : Value} {bs : List Nat} {X : Nat → Prop} (h : Laid w B u bs) (f : Fb w w' X) (hx : ∀ k, u.ownBlock = some k → ¬ X k) : Laid w' B u bs := by
 obtain ⟨g, c, rfl, h2, h3, o⟩ := h
 exact ⟨g, c, rfl, h2, h3, o.fbF f (fun k hk => hx k hk)⟩
theorem LaidE.fbL {w w' : World} {B : Nat} {D : EntD} {X : Nat → Prop} (h : LaidE w B D) (f : Fb w w' X) (hx : ∀ k, D.blk k → ¬ X k) : LaidE w' B D := ⟨h.1.fbL f (fun k hk => hx k (.inl hk)), h.2.1.fbL f (fun k hk => hx k (.inr (.inl hk))), h.2.2.fbL f (fun k hk => hx k (.inr (.inr hk)))⟩
theorem filled_fb (w : World) (g : Nat) (e : EntD) : Fb w (filled w g e) (fun k => k = g) := by
 have h := filled_apart w g e
 exact ⟨h.os, h.tape, h.output, h.size, fun k hk ho => h.block k hk ho⟩
structure Pair (wr Z : World) (x D1 D2 : EntD) (b1 b2 : Nat) : Prop where
 bel : Below wr.heap.size wr Z
 e1 : EBox Z b1 D1
 e2 : EBox Z b2 D2
 s1 : EntD.Same D1 x.cut
 s2 : EntD.Same D2 x.cut
 l1 : LaidE Z wr.heap.size D1
 l2 : LaidE Z wr.heap.size D2
 a1 : ApE D1
 a2 : ApE D2
 d1 : ∀ k, D1.blk k → ¬ D2.blk k ∧ k ≠ b1 ∧ k ≠ b2
 d2 : ∀ k, D2.blk k → k ≠ b1 ∧ k ≠ b2
 lo : wr.heap.size ≤ b1 ∧ wr.heap.size ≤ b2 ∧ b1 ≠ b2
theorem pair_of {wr Z : World} {x D1 D2 : EntD} {b1 b2 lo1 hi1 lo2 hi2 : Nat} (hb : Below wr.heap.size wr Z) (m1 : Md Z x D1 lo1 hi1) (m2 : Md Z x D2 lo2 hi2) (e1 : EBox Z b1 zeroD) (e2 : EBox Z b2 zeroD) (h1 : wr.heap.size ≤ lo1 ∧ wr.heap.size ≤ lo2 ∧ wr.heap.size ≤ b1 ∧ wr.heap.size ≤ b2) (hd : hi1 ≤ lo2) (hb1 : (b1 < lo1 ∨ hi1 ≤ b1) ∧ (b1 < lo2 ∨ hi2 ≤ b1)) (hb2 : (b2 < lo1 ∨ hi1 ≤ b2) ∧ (b2 < lo2 ∨ hi2 ≤ b2)) (hbb : b1 ≠ b2) : Pair wr (filled (filled Z b1 D1) b2 D2) x D1 D2 b1 b2 := by
 have f1 := filled_fb Z b1 D1
 have f2 := filled_fb (filled Z b1 D1) b2 D2
 have q1 : ∀ k, D1.blk k → ¬ D2.blk k ∧ k ≠ b1 ∧ k ≠ b2 := fun k hk => by
  have := m1.bl k hk
  exact ⟨fun h => by have := m2.bl k h; omega, by omega, by omega⟩
 have q2 : ∀ k, D2.blk k → k ≠ b1 ∧ k ≠ b2 := fun k hk => by
  have := m2.bl k hk
  exact ⟨by omega, by omega⟩
 have x1 := filled_box e1 D1
 have x2 : EBox (filled Z b1 D1) b2 zeroD := (f1.block b2 (Array.getElem?_eq_some_iff.1 e2).1 (fun e => hbb e.symm)).trans e2
 refine ⟨?_, (f2.block b1 (Array.getElem?_eq_some_iff.1 x1).1 (fun e => hbb e)).trans x1, filled_box x2 D2, m1.sm, m2.sm, ((m1.ld.mono h1.1).fbL f1 (fun k hk e => (q1 k hk).2.1 e)).fbL f2 (fun k hk e => (q1 k hk).2.2 e), ((m2.ld.mono h1.2.1).fbL f1 (fun k hk e => (q2 k hk).1 e)).fbL f2 (fun k hk e => (q2 k hk).2 e), m1.ap, m2.ap, q1, q2, ⟨h1.2.2.1, h1.2.2.2, hbb⟩⟩
 have w1 : Below wr.heap.size Z (filled Z b1 D1) := ⟨f1.os, f1.tape, f1.output, f1.size, fun k hk => f1.block k (Nat.lt_of_lt_of_le hk hb.size) (fun e => by omega)⟩
 have w2 : Below wr.heap.size (filled Z b1 D1) (filled (filled Z b1 D1) b2 D2) := ⟨f2.os, f2.tape, f2.output, f2.size, fun k hk => f2.block k (Nat.lt_of_lt_of_le hk (Nat.le_trans hb.size f1.size)) (fun e => by omega)⟩
 exact (hb.trans w1).trans w2
theorem below_filled {wr Z : World} {b : Nat} (h : Below wr.heap.size wr Z) (hb : wr.heap.size ≤ b) (D : EntD) : Below wr.heap.size wr (filled Z b D) := by
 have f := filled_fb Z b D
 exact h.trans ⟨f.os, f.tape, f.output, f.size, fun k hk => f.block k (Nat.lt_of_lt_of_le hk h.size) (fun e => by omega)⟩
def paddOps : Array Oper := #[{ dst := some 12, op := Op.load 38 (Operand.tmp 4), type := 38, pos := "law.go:158", after := #[], guard := none }, { dst := some 13, op := Op.call { callee := Callee.value (Operand.func 6), args := #[Operand.tmp 12], argTypes := #[38] }, type := 38, pos := "law.go:158", after := #[{ on := 0, ground := Ground.data }], guard := none }, { dst := some 14, op := Op.load 38 (Operand.tmp 4), type := 38, pos := "law.go:158", after := #[], guard := none }, { dst := some 15, op := Op.call { callee := Callee.value (Operand.func 6), args := #[Operand.tmp 14], argTypes := #[38] }, type := 38, pos := "law.go:158", after := #[{ on := 2, ground := Ground.data }, { on := 1, ground := Ground.chain }], guard := none }, { dst := some 7, op := Op.alloc 38, type := 0, pos := "law.go:158", after := #[], guard := none }, { dst := some 8, op := Op.alloc 38, type := 0, pos := "law.go:158", after := #[], guard := none }, { dst := none, op := Op.store 38 (Operand.tmp 7) (Operand.tmp 13), type := 0, pos := "law.go:158", after := #[{ on := 4, ground := Ground.data }, { on := 1, ground := Ground.data }, { on := 3, ground := Ground.chain }, { on := 0, ground := Ground.phase }, { on := 1, ground := Ground.phase }, { on := 2, ground := Ground.textOnly Departure.lateStores }, { on := 3, ground := Ground.textOnly Departure.lateStoresUnsure }, { on := 4, ground := Ground.phase }, { on := 5, ground := Ground.phase }], guard := none }, { dst := none, op := Op.store 38 (Operand.tmp 8) (Operand.tmp 15), type := 0, pos := "law.go:158", after := #[{ on := 5, ground := Ground.data }, { on := 3, ground := Ground.data }, { on := 6, ground := Ground.chain }, { on := 0, ground := Ground.phase }, { on := 1, ground := Ground.phase }, { on := 2, ground := Ground.phase }, { on := 3, ground := Ground.phase }, { on := 4, ground := Ground.phase }, { on := 5, ground := Ground.phase }, { on := 6, ground := Ground.phase }], guard := none }]
set_option maxRecDepth 100000 in
set_option maxHeartbeats 16000000 in
theorem padd_region {wr : World} {x : EntD} {be : Nat} {Q : Exit → Act → World → Prop} {s0 s1 s2 s3 s5 s6 s7 s8 s9 s10 s11 s12 s13 s14 s15 s16 s17 s18 s19 s20 s21 s22 s23 s24 s25 s26 s27 s28 s29 s30 s31 s32 s33 s34 s35 s36 s37 s38 s39 s40 s41 s42 s43 s44 s45 s46 : Value} (hok : EntD.Ok wr x) (hDc : wr.cell? ⟨be, 0, none⟩ = some (x.vr) ∧ wr.cell? ⟨be, 1, none⟩ = some (.int .i64 x.fam) ∧ wr.cell? ⟨be, 2, none⟩ = some (x.vq) ∧ wr.cell? ⟨be, 3, none⟩ = some (.int .i64 x.ts) ∧ wr.cell? ⟨be, 4, none⟩ = some (.int .i64 x.seq) ∧ wr.cell? ⟨be, 5, none⟩ = some (.int .i64 x.kind) ∧ wr.cell? ⟨be, 6, none⟩ = some (x.vv))
  (hQ : Hid (∀ (D1 D2 : EntD) (b1 b2 : Nat) (Z : World), Pair wr Z x D1 D2 b1 b2 → Q .normal (⟨#[s0, s1, s2, s3, .pointer (some ⟨be, 0, none⟩), s5, s6, .pointer (some ⟨b1, 0, none⟩), .pointer (some ⟨b2, 0, none⟩), s9, s10, s11, .agg #[x.vr, .int .i64 x.fam, x.vq, .int .i64 x.ts, .int .i64 x.seq, .int .i64 x.kind, x.vv], .agg #[D1.vr, .int .i64 D1.fam, D1.vq, .int .i64 D1.ts, .int .i64 D1.seq, .int .i64 D1.kind, D1.vv], .agg #[x.vr, .int .i64 x.fam, x.vq, .int .i64 x.ts, .int .i64 x.seq, .int .i64 x.kind, x.vv], .agg #[D2.vr, .int .i64 D2.fam, D2.vq, .int .i64 D2.ts, .int .i64 D2.seq, .int .i64 D2.kind, D2.vv], s16, s17, s18, s19, s20, s21, s22, s23, s24, s25, s26, s27, s28, s29, s30, s31, s32, s33, s34, s35, s36, s37, s38, s39, s40, s41, s42, s43, s44, s45, s46], []⟩ : Act) Z)) : Code.wp Tryz.prog (Code.region 1 paddOps true) Q (⟨#[s0, s1, s2, s3, .pointer (some ⟨be, 0, none⟩), s5, s6, s7, s8, s9, s10, s11, s12, s13, s14, s15, s16, s17, s18, s19, s20, s21, s22, s23, s24, s25, s26, s27, s28, s29, s30, s31, s32, s33, s34, s35, s36, s37, s38, s39, s40, s41, s42, s43, s44, s45, s46], []⟩ : Act) wr := by
 have HDc := Lib.hid hDc
 have HEn : Hid (∀ Z, Below wr.heap.size wr Z → Calls Tryz.prog 6 #[.agg #[x.vr, .int .i64 x.fam, x.vq, .int .i64 x.ts, .int .i64 x.seq, .int .i64 x.kind, x.vv]] Z fun r w' => ∃ D : EntD, r = .returned (.agg D.cells) ∧ EntD.Same D x.cut ∧ LaidE w' Z.heap.size D ∧ Below Z.heap.size Z w' ∧ ApE D) := fun Z bz => entry8_any (hok.later bz)
 clear hok hDc
 unfold paddOps
 have BD : Below wr.heap.size wr wr.drew := (Below.refl _ _).drew
 refine wp_region_noPanic ?_
 refine wp_region_anyE (S := fun wx => Below wr.heap.size wr wx) (E := fun _ => true) (by kernel_rfl) ?_
 have hHeld : Below wr.heap.size wr wr.drew := BD
 have HB0 := Lib.hid BD.size
 have HB := Lib.hid BD
 obtain ⟨Z0, hZ0⟩ : ∃ z, z = wr.drew := ⟨_, rfl⟩
 rw [← hZ0] at HB HB0 hHeld ⊢
 clear hZ0 BD
 refine AnyE.take (i := 0) (.agg #[x.vr, .int .i64 x.fam, x.vq, .int .i64 x.ts, .int .i64 x.seq, .int .i64 x.kind, x.vv]) rfl (by kernel_rfl) (by kernel_rfl) (by kernel_rfl) (by kernel_rfl) (fun _ _ _ h => h) (.inl ⟨by kernel_rfl, fun wy hy => by (have c0 := (hy.cell (p := ⟨be, 0, none⟩) (World.block_lt_of_cell? _ _ HDc.out.1)).trans HDc.out.1; have c1 := (hy.cell (p := ⟨be, 1, none⟩) (World.block_lt_of_cell? _ _ HDc.out.2.1)).trans HDc.out.2.1; have c2 := (hy.cell (p := ⟨be, 2, none⟩) (World.block_lt_of_cell? _ _ HDc.out.2.2.1)).trans HDc.out.2.2.1; have c3 := (hy.cell (p := ⟨be, 3, none⟩) (World.block_lt_of_cell? _ _ HDc.out.2.2.2.1)).trans HDc.out.2.2.2.1; have c4 := (hy.cell (p := ⟨be, 4, none⟩) (World.block_lt_of_cell? _ _ HDc.out.2.2.2.2.1)).trans HDc.out.2.2.2.2.1; have c5 := (hy.cell (p := ⟨be, 5, none⟩) (World.block_lt_of_cell? _ _ HDc.out.2.2.2.2.2.1)).trans HDc.out.2.2.2.2.2.1; have c6 := (hy.cell (p := ⟨be, 6, none⟩) (World.block_lt_of_cell? _ _ HDc.out.2.2.2.2.2.2)).trans HDc.out.2.2.2.2.2.2; go_simp; done)⟩) hHeld ?_
 try simp only [Act.put, List.setIfInBounds_toArray, List.set_cons_zero, List.set_cons_succ]
 refine AnyE.take (i := 2) (.agg #[x.vr, .int .i64 x.fam, x.vq, .int .i64 x.ts, .int .i64 x.seq, .int .i64 x.kind, x.vv]) rfl (by kernel_rfl) (by kernel_rfl) (by kernel_rfl) (by kernel_rfl) (fun _ _ _ h => h) (.inl ⟨by kernel_rfl, fun wy hy => by (have c0 := (hy.cell (p := ⟨be, 0, none⟩) (World.block_lt_of_cell? _ _ HDc.out.1)).trans HDc.out.1; have c1 := (hy.cell (p := ⟨be, 1, none⟩) (World.block_lt_of_cell? _ _ HDc.out.2.1)).trans HDc.out.2.1; have c2 := (hy.cell (p := ⟨be, 2, none⟩) (World.block_lt_of_cell? _ _ HDc.out.2.2.1)).trans HDc.out.2.2.1; have c3 := (hy.cell (p := ⟨be, 3, none⟩) (World.block_lt_of_cell? _ _ HDc.out.2.2.2.1)).trans HDc.out.2.2.2.1; have c4 := (hy.cell (p := ⟨be, 4, none⟩) (World.block_lt_of_cell? _ _ HDc.out.2.2.2.2.1)).trans HDc.out.2.2.2.2.1; have c5 := (hy.cell (p := ⟨be, 5, none⟩) (World.block_lt_of_cell? _ _ HDc.out.2.2.2.2.2.1)).trans HDc.out.2.2.2.2.2.1; have c6 := (hy.cell (p := ⟨be, 6, none⟩) (World.block_lt_of_cell? _ _ HDc.out.2.2.2.2.2.2)).trans HDc.out.2.2.2.2.2.2; go_simp; done)⟩) hHeld ?_
 try simp only [Act.put, List.setIfInBounds_toArray, List.set_cons_zero, List.set_cons_succ]
 refine AnyE.threeF (i := 1) (j := 4) (m := 5) rfl rfl rfl (by kernel_rfl) (by kernel_rfl) (by kernel_rfl) (by kernel_rfl) (fun KK hK => ?_) (fun KK hK => ?_) (fun KK hK => ?_)
 ·go_simp
  go_at_call 6
  refine (HEn.out _ HB.out).mono ?_
  rintro e9 Z1 ⟨⟨vr, fmD1, vq, tsD1, sqD1, kdD1, vv, rwD1, qlD1, vlD1⟩, rfl, hs9, hl9, b9, ha9⟩
  obtain ⟨pD1, mD1, cD1, e1⟩ := hl9.1.form
  obtain ⟨pqD1, mqD1, cqD1, e2⟩ := hl9.2.1.form
  obtain ⟨pvD1, mvD1, cvD1, e3⟩ := hl9.2.2.form
  simp only at e1 e2 e3
  subst e1 e2 e3
  have T1 : Hid (Z0.heap.size ≤ Z1.heap.size) := b9.size
  have Hnew := Lib.hid (Md.new hs9 hl9 ha9)
  have HB := Lib.hid (HB.out.trans (b9.mono HB.out.size))
  have HM1 := Hnew
  clear Hnew hs9 hl9 ha9 b9
  simp only [EntD.cells]
  go_wp2_with fail
  refine hK.out _ _ ⟨fun _ => HB.out, ?_⟩
  have hHeld := HB.out
  clear hK
  try simp only [Act.put, List.setIfInBounds_toArray, List.set_cons_zero, List.set_cons_succ]
  refine AnyE.threeF (i := 3) (j := 4) (m := 5) rfl rfl rfl (by kernel_rfl) (by kernel_rfl) (by kernel_rfl) (by kernel_rfl) (fun KK hK => ?_) (fun KK hK => ?_) (fun KK hK => ?_)
  ·go_simp
   go_at_call 6
   refine (HEn.out _ HB.out).mono ?_
   rintro e9 Z2 ⟨⟨vr, fmD2, vq, tsD2, sqD2, kdD2, vv, rwD2, qlD2, vlD2⟩, rfl, hs9, hl9, b9, ha9⟩
   obtain ⟨pD2, mD2, cD2, e1⟩ := hl9.1.form
   obtain ⟨pqD2, mqD2, cqD2, e2⟩ := hl9.2.1.form
   obtain ⟨pvD2, mvD2, cvD2, e3⟩ := hl9.2.2.form
   simp only at e1 e2 e3
   subst e1 e2 e3
   have T2 : Hid (Z1.heap.size ≤ Z2.heap.size) := b9.size
   have Hnew := Lib.hid (Md.new hs9 hl9 ha9)
   have HB := Lib.hid (HB.out.trans (b9.mono HB.out.size))
   have HM1 := Lib.hid (HM1.out.later b9)
   have HM2 := Hnew
   clear Hnew hs9 hl9 ha9 b9
   simp only [EntD.cells]
   go_wp2_with fail
   refine hK.out _ _ ⟨fun _ => HB.out, ?_⟩
   have hHeld := HB.out
   clear hK
   try simp only [Act.put, List.setIfInBounds_toArray, List.set_cons_zero, List.set_cons_succ]
   refine AnyE.twoF (i := 4) (j := 5) rfl rfl (by kernel_rfl) (by kernel_rfl) (by kernel_rfl) (fun KK hK => ?_) (fun KK hK => ?_)
   ·go_simp
    have bA := (Below.refl Z2.heap.size Z2).alloc (Nat.le_refl _) (.cells #[.slice none 0 0, .int .i64 0, .slice none 0 0, .int .i64 0, .int .i64 0, .int .i64 0, .slice none 0 0] 38)
    have eA : EBox (Z2.alloc (.cells #[.slice none 0 0, .int .i64 0, .slice none 0 0, .int .i64 0, .int .i64 0, .int .i64 0, .slice none 0 0] 38)) Z2.heap.size zeroD := EBox.new Z2 zeroD
    have tA : (Z2.alloc (.cells #[.slice none 0 0, .int .i64 0, .slice none 0 0, .int .i64 0, .int .i64 0, .int .i64 0, .slice none 0 0] 38)).heap.size = Z2.heap.size + 1 := by simp
    obtain ⟨Z3, hZ⟩ : ∃ z, z = Z2.alloc (.cells #[.slice none 0 0, .int .i64 0, .slice none 0 0, .int .i64 0, .int .i64 0, .int .i64 0, .slice none 0 0] 38) := ⟨_, rfl⟩
    rw [← hZ] at bA eA tA ⊢
    clear hZ
    have T3 := Lib.hid tA
    have HB := Lib.hid (HB.out.trans (bA.mono HB.out.size))
    have HM1 := Lib.hid (HM1.out.later bA)
    have HM2 := Lib.hid (HM2.out.later bA)
    have HE1 := Lib.hid eA
    clear bA eA tA
    refine hK.out _ _ ⟨fun _ => HB.out, ?_⟩
    have hHeld := HB.out
    clear hK
    try simp only [Act.put, List.setIfInBounds_toArray, List.set_cons_zero, List.set_cons_succ]
    refine AnyE.one (i := 5) rfl (by kernel_rfl) (by kernel_rfl) (fun KK hK => ?_)
    go_simp
    have bA := (Below.refl Z3.heap.size Z3).alloc (Nat.le_refl _) (.cells #[.slice none 0 0, .int .i64 0, .slice none 0 0, .int .i64 0, .int .i64 0, .int .i64 0, .slice none 0 0] 38)
    have eA : EBox (Z3.alloc (.cells #[.slice none 0 0, .int .i64 0, .slice none 0 0, .int .i64 0, .int .i64 0, .int .i64 0, .slice none 0 0] 38)) Z3.heap.size zeroD := EBox.new Z3 zeroD
    have tA : (Z3.alloc (.cells #[.slice none 0 0, .int .i64 0, .slice none 0 0, .int .i64 0, .int .i64 0, .int .i64 0, .slice none 0 0] 38)).heap.size = Z3.heap.size + 1 := by simp
    obtain ⟨Z4, hZ⟩ : ∃ z, z = Z3.alloc (.cells #[.slice none 0 0, .int .i64 0, .slice none 0 0, .int .i64 0, .int .i64 0, .int .i64 0, .slice none 0 0] 38) := ⟨_, rfl⟩
    rw [← hZ] at bA eA tA ⊢
    clear hZ
    have T4 := Lib.hid tA
    have HB := Lib.hid (HB.out.trans (bA.mono HB.out.size))
    have HM1 := Lib.hid (HM1.out.later bA)
    have HM2 := Lib.hid (HM2.out.later bA)
    have HE1 := Lib.hid (HE1.out.later bA)
    have HE2 := Lib.hid eA
    clear bA eA tA
    refine hK.out _ _ ⟨fun _ => HB.out, ?_⟩
    have hHeld := HB.out
    clear hK
    try simp only [Act.put, List.setIfInBounds_toArray, List.set_cons_zero, List.set_cons_succ]
    have HPr := Lib.hid (pair_of HB.out HM1.out HM2.out HE1.out HE2.out (by have h0 := HB0.out; have q1 := T1.out; have q2 := T2.out; have q3 := T3.out; have q4 := T4.out; omega) (by have h0 := HB0.out; have q1 := T1.out; have q2 := T2.out; have q3 := T3.out; have q4 := T4.out; omega) (by have h0 := HB0.out; have q1 := T1.out; have q2 := T2.out; have q3 := T3.out; have q4 := T4.out; omega) (by have h0 := HB0.out; have q1 := T1.out; have q2 := T2.out; have q3 := T3.out; have q4 := T4.out; omega) (by have h0 := HB0.out; have q1 := T1.out; have q2 := T2.out; have q3 := T3.out; have q4 := T4.out; omega))
    have hb1 : wr.heap.size ≤ Z2.heap.size := by have h0 := HB0.out; have q1 := T1.out; have q2 := T2.out; have q3 := T3.out; have q4 := T4.out; omega
    have hb2 : wr.heap.size ≤ Z3.heap.size := by have h0 := HB0.out; have q1 := T1.out; have q2 := T2.out; have q3 := T3.out; have q4 := T4.out; omega
    have hne : Z3.heap.size ≠ Z2.heap.size := by have h0 := HB0.out; have q1 := T1.out; have q2 := T2.out; have q3 := T3.out; have q4 := T4.out; omega
    have HS1 := Lib.hid (below_filled HB.out hb1 (EntD.mk (.slice pD1 mD1 cD1) fmD1 (.slice pqD1 mqD1 cqD1) tsD1 sqD1 kdD1 (.slice pvD1 mvD1 cvD1) rwD1 qlD1 vlD1))
    have HS2 := Lib.hid (below_filled HS1.out hb2 (EntD.mk (.slice pD2 mD2 cD2) fmD2 (.slice pqD2 mqD2 cqD2) tsD2 sqD2 kdD2 (.slice pvD2 mvD2 cvD2) rwD2 qlD2 vlD2))
    have HE3 := Lib.hid (show EBox (filled Z4 (Z2.heap.size) (EntD.mk (.slice pD1 mD1 cD1) fmD1 (.slice pqD1 mqD1 cqD1) tsD1 sqD1 kdD1 (.slice pvD1 mvD1 cvD1) rwD1 qlD1 vlD1)) (Z3.heap.size) zeroD from ((filled_fb Z4 (Z2.heap.size) (EntD.mk (.slice pD1 mD1 cD1) fmD1 (.slice pqD1 mqD1 cqD1) tsD1 sqD1 kdD1 (.slice pvD1 mvD1 cvD1) rwD1 qlD1 vlD1)).block _ (Array.getElem?_eq_some_iff.1 HE2.out).1 hne).trans HE2.out)
    obtain ⟨z0, z1, z2, z3, z4, z5, z6⟩ := HE1.out.cells7
    obtain ⟨f0, f1, f2, f3, f4, f5, f6⟩ := HE1.out.fz7
    simp only [zeroD] at z0 z1 z2 z3 z4 z5 z6
    obtain ⟨y0, y1, y2, y3, y4, y5, y6⟩ := HE3.out.cells7
    obtain ⟨g0, g1, g2, g3, g4, g5, g6⟩ := HE3.out.fz7
    simp only [zeroD, filled] at y0 y1 y2 y3 y4 y5 y6 g0 g1 g2 g3 g4 g5 g6
    clear hHeld hb1 hb2 hne
    refine AnyE.one (i := 6) rfl (by kernel_rfl) (by kernel_rfl) (fun KK hK => ?_)
    go_simp
    refine hK.out _ _ ⟨fun _ => HS1.out, ?_⟩
    clear hK z0 z1 z2 z3 z4 z5 z6 f0 f1 f2 f3 f4 f5 f6
    try simp only [Act.put, List.setIfInBounds_toArray, List.set_cons_zero, List.set_cons_succ]
    refine AnyE.one (i := 7) rfl (by kernel_rfl) (by kernel_rfl) (fun KK hK => ?_)
    go_simp
    refine hK.out _ _ ⟨fun _ => HS2.out, ?_⟩
    clear hK
    refine AnyE.done (by kernel_rfl) (NoPanic.normal ?_) _
    exact hQ.out _ _ _ _ _ HPr.out
   ·go_simp
    have bA := (Below.refl Z2.heap.size Z2).alloc (Nat.le_refl _) (.cells #[.slice none 0 0, .int .i64 0, .slice none 0 0, .int .i64 0, .int .i64 0, .int .i64 0, .slice none 0 0] 38)
    have eA : EBox (Z2.alloc (.cells #[.slice none 0 0, .int .i64 0, .slice none 0 0, .int .i64 0, .int .i64 0, .int .i64 0, .slice none 0 0] 38)) Z2.heap.size zeroD := EBox.new Z2 zeroD
    have tA : (Z2.alloc (.cells #[.slice none 0 0, .int .i64 0, .slice none 0 0, .int .i64 0, .int .i64 0, .int .i64 0, .slice none 0 0] 38)).heap.size = Z2.heap.size + 1 := by simp
    obtain ⟨Z5, hZ⟩ : ∃ z, z = Z2.alloc (.cells #[.slice none 0 0, .int .i64 0, .slice none 0 0, .int .i64 0, .int .i64 0, .int .i64 0, .slice none 0 0] 38) := ⟨_, rfl⟩
    rw [← hZ] at bA eA tA ⊢
    clear hZ
    have T5 := Lib.hid tA
    have HB := Lib.hid (HB.out.trans (bA.mono HB.out.size))
    have HM1 := Lib.hid (HM1.out.later bA)
    have HM2 := Lib.hid (HM2.out.later bA)
    have HE2 := Lib.hid eA
    clear bA eA tA
    refine hK.out _ _ ⟨fun _ => HB.out, ?_⟩
    have hHeld := HB.out
    clear hK
    try simp only [Act.put, List.setIfInBounds_toArray, List.set_cons_zero, List.set_cons_succ]
    refine AnyE.one (i := 4) rfl (by kernel_rfl) (by kernel_rfl) (fun KK hK => ?_)
    go_simp
    have bA := (Below.refl Z5.heap.size Z5).alloc (Nat.le_refl _) (.cells #[.slice none 0 0, .int .i64 0, .slice none 0 0, .int .i64 0, .int .i64 0, .int .i64 0, .slice none 0 0] 38)
    have eA : EBox (Z5.alloc (.cells #[.slice none 0 0, .int .i64 0, .slice none 0 0, .int .i64 0, .int .i64 0, .int .i64 0, .slice none 0 0] 38)) Z5.heap.size zeroD := EBox.new Z5 zeroD
    have tA : (Z5.alloc (.cells #[.slice none 0 0, .int .i64 0, .slice none 0 0, .int .i64 0, .int .i64 0, .int .i64 0, .slice none 0 0] 38)).heap.size = Z5.heap.size + 1 := by simp
    obtain ⟨Z6, hZ⟩ : ∃ z, z = Z5.alloc (.cells #[.slice none 0 0, .int .i64 0, .slice none 0 0, .int .i64 0, .int .i64 0, .int .i64 0, .slice none 0 0] 38) := ⟨_, rfl⟩
    rw [← hZ] at bA eA tA ⊢
    clear hZ
    have T6 := Lib.hid tA
    have HB := Lib.hid (HB.out.trans (bA.mono HB.out.size))
    have HM1 := Lib.hid (HM1.out.later bA)
    have HM2 := Lib.hid (HM2.out.later bA)
    have HE2 := Lib.hid (HE2.out.later bA)
    have HE1 := Lib.hid eA
    clear bA eA tA
    refine hK.out _ _ ⟨fun _ => HB.out, ?_⟩
    have hHeld := HB.out
    clear hK
    try simp only [Act.put, List.setIfInBounds_toArray, List.set_cons_zero, List.set_cons_succ]
    have HPr := Lib.hid (pair_of HB.out HM1.out HM2.out HE1.out HE2.out (by have h0 := HB0.out; have q1 := T1.out; have q2 := T2.out; have q5 := T5.out; have q6 := T6.out; omega) (by have h0 := HB0.out; have q1 := T1.out; have q2 := T2.out; have q5 := T5.out; have q6 := T6.out; omega) (by have h0 := HB0.out; have q1 := T1.out; have q2 := T2.out; have q5 := T5.out; have q6 := T6.out; omega) (by have h0 := HB0.out; have q1 := T1.out; have q2 := T2.out; have q5 := T5.out; have q6 := T6.out; omega) (by have h0 := HB0.out; have q1 := T1.out; have q2 := T2.out; have q5 := T5.out; have q6 := T6.out; omega))
    have hb1 : wr.heap.size ≤ Z5.heap.size := by have h0 := HB0.out; have q1 := T1.out; have q2 := T2.out; have q5 := T5.out; have q6 := T6.out; omega
    have hb2 : wr.heap.size ≤ Z2.heap.size := by have h0 := HB0.out; have q1 := T1.out; have q2 := T2.out; have q5 := T5.out; have q6 := T6.out; omega
    have hne : Z2.heap.size ≠ Z5.heap.size := by have h0 := HB0.out; have q1 := T1.out; have q2 := T2.out; have q5 := T5.out; have q6 := T6.out; omega
    have HS1 := Lib.hid (below_filled HB.out hb1 (EntD.mk (.slice pD1 mD1 cD1) fmD1 (.slice pqD1 mqD1 cqD1) tsD1 sqD1 kdD1 (.slice pvD1 mvD1 cvD1) rwD1 qlD1 vlD1))
    have HS2 := Lib.hid (below_filled HS1.out hb2 (EntD.mk (.slice pD2 mD2 cD2) fmD2 (.slice pqD2 mqD2 cqD2) tsD2 sqD2 kdD2 (.slice pvD2 mvD2 cvD2) rwD2 qlD2 vlD2))
    have HE3 := Lib.hid (show EBox (filled Z6 (Z5.heap.size) (EntD.mk (.slice pD1 mD1 cD1) fmD1 (.slice pqD1 mqD1 cqD1) tsD1 sqD1 kdD1 (.slice pvD1 mvD1 cvD1) rwD1 qlD1 vlD1)) (Z2.heap.size) zeroD from ((filled_fb Z6 (Z5.heap.size) (EntD.mk (.slice pD1 mD1 cD1) fmD1 (.slice pqD1 mqD1 cqD1) tsD1 sqD1 kdD1 (.slice pvD1 mvD1 cvD1) rwD1 qlD1 vlD1)).block _ (Array.getElem?_eq_some_iff.1 HE2.out).1 hne).trans HE2.out)
    obtain ⟨z0, z1, z2, z3, z4, z5, z6⟩ := HE1.out.cells7
    obtain ⟨f0, f1, f2, f3, f4, f5, f6⟩ := HE1.out.fz7
    simp only [zeroD] at z0 z1 z2 z3 z4 z5 z6
    obtain ⟨y0, y1, y2, y3, y4, y5, y6⟩ := HE3.out.cells7
    obtain ⟨g0, g1, g2, g3, g4, g5, g6⟩ := HE3.out.fz7
    simp only [zeroD, filled] at y0 y1 y2 y3 y4 y5 y6 g0 g1 g2 g3 g4 g5 g6
    clear hHeld hb1 hb2 hne
    refine AnyE.one (i := 6) rfl (by kernel_rfl) (by kernel_rfl) (fun KK hK => ?_)
    go_simp
    refine hK.out _ _ ⟨fun _ => HS1.out, ?_⟩
    clear hK z0 z1 z2 z3 z4 z5 z6 f0 f1 f2 f3 f4 f5 f6
    try simp only [Act.put, List.setIfInBounds_toArray, List.set_cons_zero, List.set_cons_succ]
    refine AnyE.one (i := 7) rfl (by kernel_rfl) (by kernel_rfl) (fun KK hK => ?_)
    go_simp
    refine hK.out _ _ ⟨fun _ => HS2.out, ?_⟩
    clear hK
    refine AnyE.done (by kernel_rfl) (NoPanic.normal ?_) _
    exact hQ.out _ _ _ _ _ HPr.out
  ·go_simp
   have bA := (Below.refl Z1.heap.size Z1).alloc (Nat.le_refl _) (.cells #[.slice none 0 0, .int .i64 0, .slice none 0 0, .int .i64 0, .int .i64 0, .int .i64 0, .slice none 0 0] 38)
   have eA : EBox (Z1.alloc (.cells #[.slice none 0 0, .int .i64 0, .slice none 0 0, .int .i64 0, .int .i64 0, .int .i64 0, .slice none 0 0] 38)) Z1.heap.size zeroD := EBox.new Z1 zeroD
   have tA : (Z1.alloc (.cells #[.slice none 0 0, .int .i64 0, .slice none 0 0, .int .i64 0, .int .i64 0, .int .i64 0, .slice none 0 0] 38)).heap.size = Z1.heap.size + 1 := by simp
   obtain ⟨Z7, hZ⟩ : ∃ z, z = Z1.alloc (.cells #[.slice none 0 0, .int .i64 0, .slice none 0 0, .int .i64 0, .int .i64 0, .int .i64 0, .slice none 0 0] 38) := ⟨_, rfl⟩
   rw [← hZ] at bA eA tA ⊢
   clear hZ
   have T7 := Lib.hid tA
   have HB := Lib.hid (HB.out.trans (bA.mono HB.out.size))
   have HM1 := Lib.hid (HM1.out.later bA)
   have HE1 := Lib.hid eA
   clear bA eA tA
   refine hK.out _ _ ⟨fun _ => HB.out, ?_⟩
   have hHeld := HB.out
   clear hK
   try simp only [Act.put, List.setIfInBounds_toArray, List.set_cons_zero, List.set_cons_succ]
   refine AnyE.twoF (i := 3) (j := 5) rfl rfl (by kernel_rfl) (by kernel_rfl) (by kernel_rfl) (fun KK hK => ?_) (fun KK hK => ?_)
   ·go_simp
    go_at_call 6
    refine (HEn.out _ HB.out).mono ?_
    rintro e9 Z8 ⟨⟨vr, fmD2, vq, tsD2, sqD2, kdD2, vv, rwD2, qlD2, vlD2⟩, rfl, hs9, hl9, b9, ha9⟩
    obtain ⟨pD2, mD2, cD2, e1⟩ := hl9.1.form
    obtain ⟨pqD2, mqD2, cqD2, e2⟩ := hl9.2.1.form
    obtain ⟨pvD2, mvD2, cvD2, e3⟩ := hl9.2.2.form
    simp only at e1 e2 e3
    subst e1 e2 e3
    have T8 : Hid (Z7.heap.size ≤ Z8.heap.size) := b9.size
    have Hnew := Lib.hid (Md.new hs9 hl9 ha9)
    have HB := Lib.hid (HB.out.trans (b9.mono HB.out.size))
    have HM1 := Lib.hid (HM1.out.later b9)
    have HE1 := Lib.hid (HE1.out.later b9)
    have HM2 := Hnew
    clear Hnew hs9 hl9 ha9 b9
    simp only [EntD.cells]
    go_wp2_with fail
    refine hK.out _ _ ⟨fun _ => HB.out, ?_⟩
    have hHeld := HB.out
    clear hK
    try simp only [Act.put, List.setIfInBounds_toArray, List.set_cons_zero, List.set_cons_succ]
    refine AnyE.one (i := 5) rfl (by kernel_rfl) (by kernel_rfl) (fun KK hK => ?_)
    go_simp
    have bA := (Below.refl Z8.heap.size Z8).alloc (Nat.le_refl _) (.cells #[.slice none 0 0, .int .i64 0, .slice none 0 0, .int .i64 0, .int .i64 0, .int .i64 0, .slice none 0 0] 38)
    have eA : EBox (Z8.alloc (.cells #[.slice none 0 0, .int .i64 0, .slice none 0 0, .int .i64 0, .int .i64 0, .int .i64 0, .slice none 0 0] 38)) Z8.heap.size zeroD := EBox.new Z8 zeroD
    have tA : (Z8.alloc (.cells #[.slice none 0 0, .int .i64 0, .slice none 0 0, .int .i64 0, .int .i64 0, .int .i64 0, .slice none 0 0] 38)).heap.size = Z8.heap.size + 1 := by simp
    obtain ⟨Z9, hZ⟩ : ∃ z, z = Z8.alloc (.cells #[.slice none 0 0, .int .i64 0, .slice none 0 0, .int .i64 0, .int .i64 0, .int .i64 0, .slice none 0 0] 38) := ⟨_, rfl⟩
    rw [← hZ] at bA eA tA ⊢
    clear hZ
    have T9 := Lib.hid tA
    have HB := Lib.hid (HB.out.trans (bA.mono HB.out.size))
    have HM1 := Lib.hid (HM1.out.later bA)
    have HM2 := Lib.hid (HM2.out.later bA)
    have HE1 := Lib.hid (HE1.out.later bA)
    have HE2 := Lib.hid eA
    clear bA eA tA
    refine hK.out _ _ ⟨fun _ => HB.out, ?_⟩
    have hHeld := HB.out
    clear hK
    try simp only [Act.put, List.setIfInBounds_toArray, List.set_cons_zero, List.set_cons_succ]
    have HPr := Lib.hid (pair_of HB.out HM1.out HM2.out HE1.out HE2.out (by have h0 := HB0.out; have q1 := T1.out; have q7 := T7.out; have q8 := T8.out; have q9 := T9.out; omega) (by have h0 := HB0.out; have q1 := T1.out; have q7 := T7.out; have q8 := T8.out; have q9 := T9.out; omega) (by have h0 := HB0.out; have q1 := T1.out; have q7 := T7.out; have q8 := T8.out; have q9 := T9.out; omega) (by have h0 := HB0.out; have q1 := T1.out; have q7 := T7.out; have q8 := T8.out; have q9 := T9.out; omega) (by have h0 := HB0.out; have q1 := T1.out; have q7 := T7.out; have q8 := T8.out; have q9 := T9.out; omega))
    have hb1 : wr.heap.size ≤ Z1.heap.size := by have h0 := HB0.out; have q1 := T1.out; have q7 := T7.out; have q8 := T8.out; have q9 := T9.out; omega
    have hb2 : wr.heap.size ≤ Z8.heap.size := by have h0 := HB0.out; have q1 := T1.out; have q7 := T7.out; have q8 := T8.out; have q9 := T9.out; omega
    have hne : Z8.heap.size ≠ Z1.heap.size := by have h0 := HB0.out; have q1 := T1.out; have q7 := T7.out; have q8 := T8.out; have q9 := T9.out; omega
    have HS1 := Lib.hid (below_filled HB.out hb1 (EntD.mk (.slice pD1 mD1 cD1) fmD1 (.slice pqD1 mqD1 cqD1) tsD1 sqD1 kdD1 (.slice pvD1 mvD1 cvD1) rwD1 qlD1 vlD1))
    have HS2 := Lib.hid (below_filled HS1.out hb2 (EntD.mk (.slice pD2 mD2 cD2) fmD2 (.slice pqD2 mqD2 cqD2) tsD2 sqD2 kdD2 (.slice pvD2 mvD2 cvD2) rwD2 qlD2 vlD2))
    have HE3 := Lib.hid (show EBox (filled Z9 (Z1.heap.size) (EntD.mk (.slice pD1 mD1 cD1) fmD1 (.slice pqD1 mqD1 cqD1) tsD1 sqD1 kdD1 (.slice pvD1 mvD1 cvD1) rwD1 qlD1 vlD1)) (Z8.heap.size) zeroD from ((filled_fb Z9 (Z1.heap.size) (EntD.mk (.slice pD1 mD1 cD1) fmD1 (.slice pqD1 mqD1 cqD1) tsD1 sqD1 kdD1 (.slice pvD1 mvD1 cvD1) rwD1 qlD1 vlD1)).block _ (Array.getElem?_eq_some_iff.1 HE2.out).1 hne).trans HE2.out)
    obtain ⟨z0, z1, z2, z3, z4, z5, z6⟩ := HE1.out.cells7
    obtain ⟨f0, f1, f2, f3, f4, f5, f6⟩ := HE1.out.fz7
    simp only [zeroD] at z0 z1 z2 z3 z4 z5 z6
    obtain ⟨y0, y1, y2, y3, y4, y5, y6⟩ := HE3.out.cells7
    obtain ⟨g0, g1, g2, g3, g4, g5, g6⟩ := HE3.out.fz7
    simp only [zeroD, filled] at y0 y1 y2 y3 y4 y5 y6 g0 g1 g2 g3 g4 g5 g6
    clear hHeld hb1 hb2 hne
    refine AnyE.one (i := 6) rfl (by kernel_rfl) (by kernel_rfl) (fun KK hK => ?_)
    go_simp
    refine hK.out _ _ ⟨fun _ => HS1.out, ?_⟩
    clear hK z0 z1 z2 z3 z4 z5 z6 f0 f1 f2 f3 f4 f5 f6
    try simp only [Act.put, List.setIfInBounds_toArray, List.set_cons_zero, List.set_cons_succ]
    refine AnyE.one (i := 7) rfl (by kernel_rfl) (by kernel_rfl) (fun KK hK => ?_)
    go_simp
    refine hK.out _ _ ⟨fun _ => HS2.out, ?_⟩
    clear hK
    refine AnyE.done (by kernel_rfl) (NoPanic.normal ?_) _
    exact hQ.out _ _ _ _ _ HPr.out
   ·go_simp
    have bA := (Below.refl Z7.heap.size Z7).alloc (Nat.le_refl _) (.cells #[.slice none 0 0, .int .i64 0, .slice none 0 0, .int .i64 0, .int .i64 0, .int .i64 0, .slice none 0 0] 38)
    have eA : EBox (Z7.alloc (.cells #[.slice none 0 0, .int .i64 0, .slice none 0 0, .int .i64 0, .int .i64 0, .int .i64 0, .slice none 0 0] 38)) Z7.heap.size zeroD := EBox.new Z7 zeroD
    have tA : (Z7.alloc (.cells #[.slice none 0 0, .int .i64 0, .slice none 0 0, .int .i64 0, .int .i64 0, .int .i64 0, .slice none 0 0] 38)).heap.size = Z7.heap.size + 1 := by simp
    obtain ⟨Z10, hZ⟩ : ∃ z, z = Z7.alloc (.cells #[.slice none 0 0, .int .i64 0, .slice none 0 0, .int .i64 0, .int .i64 0, .int .i64 0, .slice none 0 0] 38) := ⟨_, rfl⟩
    rw [← hZ] at bA eA tA ⊢
    clear hZ
    have T10 := Lib.hid tA
    have HB := Lib.hid (HB.out.trans (bA.mono HB.out.size))
    have HM1 := Lib.hid (HM1.out.later bA)
    have HE1 := Lib.hid (HE1.out.later bA)
    have HE2 := Lib.hid eA
    clear bA eA tA
    refine hK.out _ _ ⟨fun _ => HB.out, ?_⟩
    have hHeld := HB.out
    clear hK
    try simp only [Act.put, List.setIfInBounds_toArray, List.set_cons_zero, List.set_cons_succ]
    refine AnyE.one (i := 3) rfl (by kernel_rfl) (by kernel_rfl) (fun KK hK => ?_)
    go_simp
    go_at_call 6
    refine (HEn.out _ HB.out).mono ?_
    rintro e9 Z11 ⟨⟨vr, fmD2, vq, tsD2, sqD2, kdD2, vv, rwD2, qlD2, vlD2⟩, rfl, hs9, hl9, b9, ha9⟩
    obtain ⟨pD2, mD2, cD2, e1⟩ := hl9.1.form
    obtain ⟨pqD2, mqD2, cqD2, e2⟩ := hl9.2.1.form
    obtain ⟨pvD2, mvD2, cvD2, e3⟩ := hl9.2.2.form
    simp only at e1 e2 e3
    subst e1 e2 e3
    have T11 : Hid (Z10.heap.size ≤ Z11.heap.size) := b9.size
    have Hnew := Lib.hid (Md.new hs9 hl9 ha9)
    have HB := Lib.hid (HB.out.trans (b9.mono HB.out.size))
    have HM1 := Lib.hid (HM1.out.later b9)
    have HE1 := Lib.hid (HE1.out.later b9)
    have HE2 := Lib.hid (HE2.out.later b9)
    have HM2 := Hnew
    clear Hnew hs9 hl9 ha9 b9
    simp only [EntD.cells]
    go_wp2_with fail
    refine hK.out _ _ ⟨fun _ => HB.out, ?_⟩
    have hHeld := HB.out
    clear hK
    try simp only [Act.put, List.setIfInBounds_toArray, List.set_cons_zero, List.set_cons_succ]
    have HPr := Lib.hid (pair_of HB.out HM1.out HM2.out HE1.out HE2.out (by have h0 := HB0.out; have q1 := T1.out; have q7 := T7.out; have q10 := T10.out; have q11 := T11.out; omega) (by have h0 := HB0.out; have q1 := T1.out; have q7 := T7.out; have q10 := T10.out; have q11 := T11.out; omega) (by have h0 := HB0.out; have q1 := T1.out; have q7 := T7.out; have q10 := T10.out; have q11 := T11.out; omega) (by have h0 := HB0.out; have q1 := T1.out; have q7 := T7.out; have q10 := T10.out; have q11 := T11.out; omega) (by have h0 := HB0.out; have q1 := T1.out; have q7 := T7.out; have q10 := T10.out; have q11 := T11.out; omega))
    have hb1 : wr.heap.size ≤ Z1.heap.size := by have h0 := HB0.out; have q1 := T1.out; have q7 := T7.out; have q10 := T10.out; have q11 := T11.out; omega
    have hb2 : wr.heap.size ≤ Z7.heap.size := by have h0 := HB0.out; have q1 := T1.out; have q7 := T7.out; have q10 := T10.out; have q11 := T11.out; omega
    have hne : Z7.heap.size ≠ Z1.heap.size := by have h0 := HB0.out; have q1 := T1.out; have q7 := T7.out; have q10 := T10.out; have q11 := T11.out; omega
    have HS1 := Lib.hid (below_filled HB.out hb1 (EntD.mk (.slice pD1 mD1 cD1) fmD1 (.slice pqD1 mqD1 cqD1) tsD1 sqD1 kdD1 (.slice pvD1 mvD1 cvD1) rwD1 qlD1 vlD1))
    have HS2 := Lib.hid (below_filled HS1.out hb2 (EntD.mk (.slice pD2 mD2 cD2) fmD2 (.slice pqD2 mqD2 cqD2) tsD2 sqD2 kdD2 (.slice pvD2 mvD2 cvD2) rwD2 qlD2 vlD2))
    have HE3 := Lib.hid (show EBox (filled Z11 (Z1.heap.size) (EntD.mk (.slice pD1 mD1 cD1) fmD1 (.slice pqD1 mqD1 cqD1) tsD1 sqD1 kdD1 (.slice pvD1 mvD1 cvD1) rwD1 qlD1 vlD1)) (Z7.heap.size) zeroD from ((filled_fb Z11 (Z1.heap.size) (EntD.mk (.slice pD1 mD1 cD1) fmD1 (.slice pqD1 mqD1 cqD1) tsD1 sqD1 kdD1 (.slice pvD1 mvD1 cvD1) rwD1 qlD1 vlD1)).block _ (Array.getElem?_eq_some_iff.1 HE2.out).1 hne).trans HE2.out)
    obtain ⟨z0, z1, z2, z3, z4, z5, z6⟩ := HE1.out.cells7
    obtain ⟨f0, f1, f2, f3, f4, f5, f6⟩ := HE1.out.fz7
    simp only [zeroD] at z0 z1 z2 z3 z4 z5 z6
    obtain ⟨y0, y1, y2, y3, y4, y5, y6⟩ := HE3.out.cells7
    obtain ⟨g0, g1, g2, g3, g4, g5, g6⟩ := HE3.out.fz7
    simp only [zeroD, filled] at y0 y1 y2 y3 y4 y5 y6 g0 g1 g2 g3 g4 g5 g6
    clear hHeld hb1 hb2 hne
    refine AnyE.one (i := 6) rfl (by kernel_rfl) (by kernel_rfl) (fun KK hK => ?_)
    go_simp
    refine hK.out _ _ ⟨fun _ => HS1.out, ?_⟩
    clear hK z0 z1 z2 z3 z4 z5 z6 f0 f1 f2 f3 f4 f5 f6
    try simp only [Act.put, List.setIfInBounds_toArray, List.set_cons_zero, List.set_cons_succ]
    refine AnyE.one (i := 7) rfl (by kernel_rfl) (by kernel_rfl) (fun KK hK => ?_)
    go_simp
    refine hK.out _ _ ⟨fun _ => HS2.out, ?_⟩
    clear hK
    refine AnyE.done (by kernel_rfl) (NoPanic.normal ?_) _
    exact hQ.out _ _ _ _ _ HPr.out
  ·go_simp
   have bA := (Below.refl Z1.heap.size Z1).alloc (Nat.le_refl _) (.cells #[.slice none 0 0, .int .i64 0, .slice none 0 0, .int .i64 0, .int .i64 0, .int .i64 0, .slice none 0 0] 38)
   have eA : EBox (Z1.alloc (.cells #[.slice none 0 0, .int .i64 0, .slice none 0 0, .int .i64 0, .int .i64 0, .int .i64 0, .slice none 0 0] 38)) Z1.heap.size zeroD := EBox.new Z1 zeroD
   have tA : (Z1.alloc (.cells #[.slice none 0 0, .int .i64 0, .slice none 0 0, .int .i64 0, .int .i64 0, .int .i64 0, .slice none 0 0] 38)).heap.size = Z1.heap.size + 1 := by simp
   obtain ⟨Z12, hZ⟩ : ∃ z, z = Z1.alloc (.cells #[.slice none 0 0, .int .i64 0, .slice none 0 0, .int .i64 0, .int .i64 0, .int .i64 0, .slice none 0 0] 38) := ⟨_, rfl⟩
   rw [← hZ] at bA eA tA ⊢
   clear hZ
   have T12 := Lib.hid tA
   have HB := Lib.hid (HB.out.trans (bA.mono HB.out.size))
   have HM1 := Lib.hid (HM1.out.later bA)
   have HE2 := Lib.hid eA
   clear bA eA tA
   refine hK.out _ _ ⟨fun _ => HB.out, ?_⟩
   have hHeld := HB.out
   clear hK
   try simp only [Act.put, List.setIfInBounds_toArray, List.set_cons_zero, List.set_cons_succ]
   refine AnyE.twoF (i := 3) (j := 4) rfl rfl (by kernel_rfl) (by kernel_rfl) (by kernel_rfl) (fun KK hK => ?_) (fun KK hK => ?_)
   ·go_simp
    go_at_call 6
    refine (HEn.out _ HB.out).mono ?_
    rintro e9 Z13 ⟨⟨vr, fmD2, vq, tsD2, sqD2, kdD2, vv, rwD2, qlD2, vlD2⟩, rfl, hs9, hl9, b9, ha9⟩
    obtain ⟨pD2, mD2, cD2, e1⟩ := hl9.1.form
    obtain ⟨pqD2, mqD2, cqD2, e2⟩ := hl9.2.1.form
    obtain ⟨pvD2, mvD2, cvD2, e3⟩ := hl9.2.2.form
    simp only at e1 e2 e3
    subst e1 e2 e3
    have T13 : Hid (Z12.heap.size ≤ Z13.heap.size) := b9.size
    have Hnew := Lib.hid (Md.new hs9 hl9 ha9)
    have HB := Lib.hid (HB.out.trans (b9.mono HB.out.size))
    have HM1 := Lib.hid (HM1.out.later b9)
    have HE2 := Lib.hid (HE2.out.later b9)
    have HM2 := Hnew
    clear Hnew hs9 hl9 ha9 b9
    simp only [EntD.cells]
    go_wp2_with fail
    refine hK.out _ _ ⟨fun _ => HB.out, ?_⟩
    have hHeld := HB.out
    clear hK
    try simp only [Act.put, List.setIfInBounds_toArray, List.set_cons_zero, List.set_cons_succ]
    refine AnyE.one (i := 4) rfl (by kernel_rfl) (by kernel_rfl) (fun KK hK => ?_)
    go_simp
    have bA := (Below.refl Z13.heap.size Z13).alloc (Nat.le_refl _) (.cells #[.slice none 0 0, .int .i64 0, .slice none 0 0, .int .i64 0, .int .i64 0, .int .i64 0, .slice none 0 0] 38)
    have eA : EBox (Z13.alloc (.cells #[.slice none 0 0, .int .i64 0, .slice none 0 0, .int .i64 0, .int .i64 0, .int .i64 0, .slice none 0 0] 38)) Z13.heap.size zeroD := EBox.new Z13 zeroD
    have tA : (Z13.alloc (.cells #[.slice none 0 0, .int .i64 0, .slice none 0 0, .int .i64 0, .int .i64 0, .int .i64 0, .slice none 0 0] 38)).heap.size = Z13.heap.size + 1 := by simp
    obtain ⟨Z14, hZ⟩ : ∃ z, z = Z13.alloc (.cells #[.slice none 0 0, .int .i64 0, .slice none 0 0, .int .i64 0, .int .i64 0, .int .i64 0, .slice none 0 0] 38) := ⟨_, rfl⟩
    rw [← hZ] at bA eA tA ⊢
    clear hZ
    have T14 := Lib.hid tA
    have HB := Lib.hid (HB.out.trans (bA.mono HB.out.size))
    have HM1 := Lib.hid (HM1.out.later bA)
    have HM2 := Lib.hid (HM2.out.later bA)
    have HE2 := Lib.hid (HE2.out.later bA)
    have HE1 := Lib.hid eA
    clear bA eA tA
    refine hK.out _ _ ⟨fun _ => HB.out, ?_⟩
    have hHeld := HB.out
    clear hK
    try simp only [Act.put, List.setIfInBounds_toArray, List.set_cons_zero, List.set_cons_succ]
    have HPr := Lib.hid (pair_of HB.out HM1.out HM2.out HE1.out HE2.out (by have h0 := HB0.out; have q1 := T1.out; have q12 := T12.out; have q13 := T13.out; have q14 := T14.out; omega) (by have h0 := HB0.out; have q1 := T1.out; have q12 := T12.out; have q13 := T13.out; have q14 := T14.out; omega) (by have h0 := HB0.out; have q1 := T1.out; have q12 := T12.out; have q13 := T13.out; have q14 := T14.out; omega) (by have h0 := HB0.out; have q1 := T1.out; have q12 := T12.out; have q13 := T13.out; have q14 := T14.out; omega) (by have h0 := HB0.out; have q1 := T1.out; have q12 := T12.out; have q13 := T13.out; have q14 := T14.out; omega))
    have hb1 : wr.heap.size ≤ Z13.heap.size := by have h0 := HB0.out; have q1 := T1.out; have q12 := T12.out; have q13 := T13.out; have q14 := T14.out; omega
    have hb2 : wr.heap.size ≤ Z1.heap.size := by have h0 := HB0.out; have q1 := T1.out; have q12 := T12.out; have q13 := T13.out; have q14 := T14.out; omega
    have hne : Z1.heap.size ≠ Z13.heap.size := by have h0 := HB0.out; have q1 := T1.out; have q12 := T12.out; have q13 := T13.out; have q14 := T14.out; omega
    have HS1 := Lib.hid (below_filled HB.out hb1 (EntD.mk (.slice pD1 mD1 cD1) fmD1 (.slice pqD1 mqD1 cqD1) tsD1 sqD1 kdD1 (.slice pvD1 mvD1 cvD1) rwD1 qlD1 vlD1))
    have HS2 := Lib.hid (below_filled HS1.out hb2 (EntD.mk (.slice pD2 mD2 cD2) fmD2 (.slice pqD2 mqD2 cqD2) tsD2 sqD2 kdD2 (.slice pvD2 mvD2 cvD2) rwD2 qlD2 vlD2))
    have HE3 := Lib.hid (show EBox (filled Z14 (Z13.heap.size) (EntD.mk (.slice pD1 mD1 cD1) fmD1 (.slice pqD1 mqD1 cqD1) tsD1 sqD1 kdD1 (.slice pvD1 mvD1 cvD1) rwD1 qlD1 vlD1)) (Z1.heap.size) zeroD from ((filled_fb Z14 (Z13.heap.size) (EntD.mk (.slice pD1 mD1 cD1) fmD1 (.slice pqD1 mqD1 cqD1) tsD1 sqD1 kdD1 (.slice pvD1 mvD1 cvD1) rwD1 qlD1 vlD1)).block _ (Array.getElem?_eq_some_iff.1 HE2.out).1 hne).trans HE2.out)
    obtain ⟨z0, z1, z2, z3, z4, z5, z6⟩ := HE1.out.cells7
    obtain ⟨f0, f1, f2, f3, f4, f5, f6⟩ := HE1.out.fz7
    simp only [zeroD] at z0 z1 z2 z3 z4 z5 z6
    obtain ⟨y0, y1, y2, y3, y4, y5, y6⟩ := HE3.out.cells7
    obtain ⟨g0, g1, g2, g3, g4, g5, g6⟩ := HE3.out.fz7
    simp only [zeroD, filled] at y0 y1 y2 y3 y4 y5 y6 g0 g1 g2 g3 g4 g5 g6
    clear hHeld hb1 hb2 hne
    refine AnyE.one (i := 6) rfl (by kernel_rfl) (by kernel_rfl) (fun KK hK => ?_)
    go_simp
    refine hK.out _ _ ⟨fun _ => HS1.out, ?_⟩
    clear hK z0 z1 z2 z3 z4 z5 z6 f0 f1 f2 f3 f4 f5 f6
    try simp only [Act.put, List.setIfInBounds_toArray, List.set_cons_zero, List.set_cons_succ]
    refine AnyE.one (i := 7) rfl (by kernel_rfl) (by kernel_rfl) (fun KK hK => ?_)
    go_simp
    refine hK.out _ _ ⟨fun _ => HS2.out, ?_⟩
    clear hK
    refine AnyE.done (by kernel_rfl) (NoPanic.normal ?_) _
    exact hQ.out _ _ _ _ _ HPr.out
   ·go_simp
    have bA := (Below.refl Z12.heap.size Z12).alloc (Nat.le_refl _) (.cells #[.slice none 0 0, .int .i64 0, .slice none 0 0, .int .i64 0, .int .i64 0, .int .i64 0, .slice none 0 0] 38)
    have eA : EBox (Z12.alloc (.cells #[.slice none 0 0, .int .i64 0, .slice none 0 0, .int .i64 0, .int .i64 0, .int .i64 0, .slice none 0 0] 38)) Z12.heap.size zeroD := EBox.new Z12 zeroD
    have tA : (Z12.alloc (.cells #[.slice none 0 0, .int .i64 0, .slice none 0 0, .int .i64 0, .int .i64 0, .int .i64 0, .slice none 0 0] 38)).heap.size = Z12.heap.size + 1 := by simp
    obtain ⟨Z15, hZ⟩ : ∃ z, z = Z12.alloc (.cells #[.slice none 0 0, .int .i64 0, .slice none 0 0, .int .i64 0, .int .i64 0, .int .i64 0, .slice none 0 0] 38) := ⟨_, rfl⟩
    rw [← hZ] at bA eA tA ⊢
    clear hZ
    have T15 := Lib.hid tA
    have HB := Lib.hid (HB.out.trans (bA.mono HB.out.size))
    have HM1 := Lib.hid (HM1.out.later bA)
    have HE2 := Lib.hid (HE2.out.later bA)
    have HE1 := Lib.hid eA
    clear bA eA tA
    refine hK.out _ _ ⟨fun _ => HB.out, ?_⟩
    have hHeld := HB.out
    clear hK
    try simp only [Act.put, List.setIfInBounds_toArray, List.set_cons_zero, List.set_cons_succ]
    refine AnyE.one (i := 3) rfl (by kernel_rfl) (by kernel_rfl) (fun KK hK => ?_)
    go_simp
    go_at_call 6
    refine (HEn.out _ HB.out).mono ?_
    rintro e9 Z16 ⟨⟨vr, fmD2, vq, tsD2, sqD2, kdD2, vv, rwD2, qlD2, vlD2⟩, rfl, hs9, hl9, b9, ha9⟩
    obtain ⟨pD2, mD2, cD2, e1⟩ := hl9.1.form
    obtain ⟨pqD2, mqD2, cqD2, e2⟩ := hl9.2.1.form
    obtain ⟨pvD2, mvD2, cvD2, e3⟩ := hl9.2.2.form
    simp only at e1 e2 e3
    subst e1 e2 e3
    have T16 : Hid (Z15.heap.size ≤ Z16.heap.size) := b9.size
    have Hnew := Lib.hid (Md.new hs9 hl9 ha9)
    have HB := Lib.hid (HB.out.trans (b9.mono HB.out.size))
    have HM1 := Lib.hid (HM1.out.later b9)
    have HE1 := Lib.hid (HE1.out.later b9)
    have HE2 := Lib.hid (HE2.out.later b9)
    have HM2 := Hnew
    clear Hnew hs9 hl9 ha9 b9
    simp only [EntD.cells]
    go_wp2_with fail
    refine hK.out _ _ ⟨fun _ => HB.out, ?_⟩
    have hHeld := HB.out
    clear hK
    try simp only [Act.put, List.setIfInBounds_toArray, List.set_cons_zero, List.set_cons_succ]
    have HPr := Lib.hid (pair_of HB.out HM1.out HM2.out HE1.out HE2.out (by have h0 := HB0.out; have q1 := T1.out; have q12 := T12.out; have q15 := T15.out; have q16 := T16.out; omega) (by have h0 := HB0.out; have q1 := T1.out; have q12 := T12.out; have q15 := T15.out; have q16 := T16.out; omega) (by have h0 := HB0.out; have q1 := T1.out; have q12 := T12.out; have q15 := T15.out; have q16 := T16.out; omega) (by have h0 := HB0.out; have q1 := T1.out; have q12 := T12.out; have q15 := T15.out; have q16 := T16.out; omega) (by have h0 := HB0.out; have q1 := T1.out; have q12 := T12.out; have q15 := T15.out; have q16 := T16.out; omega))
    have hb1 : wr.heap.size ≤ Z12.heap.size := by have h0 := HB0.out; have q1 := T1.out; have q12 := T12.out; have q15 := T15.out; have q16 := T16.out; omega
    have hb2 : wr.heap.size ≤ Z1.heap.size := by have h0 := HB0.out; have q1 := T1.out; have q12 := T12.out; have q15 := T15.out; have q16 := T16.out; omega
    have hne : Z1.heap.size ≠ Z12.heap.size := by have h0 := HB0.out; have q1 := T1.out; have q12 := T12.out; have q15 := T15.out; have q16 := T16.out; omega
    have HS1 := Lib.hid (below_filled HB.out hb1 (EntD.mk (.slice pD1 mD1 cD1) fmD1 (.slice pqD1 mqD1 cqD1) tsD1 sqD1 kdD1 (.slice pvD1 mvD1 cvD1) rwD1 qlD1 vlD1))
    have HS2 := Lib.hid (below_filled HS1.out hb2 (EntD.mk (.slice pD2 mD2 cD2) fmD2 (.slice pqD2 mqD2 cqD2) tsD2 sqD2 kdD2 (.slice pvD2 mvD2 cvD2) rwD2 qlD2 vlD2))
    have HE3 := Lib.hid (show EBox (filled Z16 (Z12.heap.size) (EntD.mk (.slice pD1 mD1 cD1) fmD1 (.slice pqD1 mqD1 cqD1) tsD1 sqD1 kdD1 (.slice pvD1 mvD1 cvD1) rwD1 qlD1 vlD1)) (Z1.heap.size) zeroD from ((filled_fb Z16 (Z12.heap.size) (EntD.mk (.slice pD1 mD1 cD1) fmD1 (.slice pqD1 mqD1 cqD1) tsD1 sqD1 kdD1 (.slice pvD1 mvD1 cvD1) rwD1 qlD1 vlD1)).block _ (Array.getElem?_eq_some_iff.1 HE2.out).1 hne).trans HE2.out)
    obtain ⟨z0, z1, z2, z3, z4, z5, z6⟩ := HE1.out.cells7
    obtain ⟨f0, f1, f2, f3, f4, f5, f6⟩ := HE1.out.fz7
    simp only [zeroD] at z0 z1 z2 z3 z4 z5 z6
    obtain ⟨y0, y1, y2, y3, y4, y5, y6⟩ := HE3.out.cells7
    obtain ⟨g0, g1, g2, g3, g4, g5, g6⟩ := HE3.out.fz7
    simp only [zeroD, filled] at y0 y1 y2 y3 y4 y5 y6 g0 g1 g2 g3 g4 g5 g6
    clear hHeld hb1 hb2 hne
    refine AnyE.one (i := 6) rfl (by kernel_rfl) (by kernel_rfl) (fun KK hK => ?_)
    go_simp
    refine hK.out _ _ ⟨fun _ => HS1.out, ?_⟩
    clear hK z0 z1 z2 z3 z4 z5 z6 f0 f1 f2 f3 f4 f5 f6
    try simp only [Act.put, List.setIfInBounds_toArray, List.set_cons_zero, List.set_cons_succ]
    refine AnyE.one (i := 7) rfl (by kernel_rfl) (by kernel_rfl) (fun KK hK => ?_)
    go_simp
    refine hK.out _ _ ⟨fun _ => HS2.out, ?_⟩
    clear hK
    refine AnyE.done (by kernel_rfl) (NoPanic.normal ?_) _
    exact hQ.out _ _ _ _ _ HPr.out
 ·go_simp
  have bA := (Below.refl Z0.heap.size Z0).alloc (Nat.le_refl _) (.cells #[.slice none 0 0, .int .i64 0, .slice none 0 0, .int .i64 0, .int .i64 0, .int .i64 0, .slice none 0 0] 38)
  have eA : EBox (Z0.alloc (.cells #[.slice none 0 0, .int .i64 0, .slice none 0 0, .int .i64 0, .int .i64 0, .int .i64 0, .slice none 0 0] 38)) Z0.heap.size zeroD := EBox.new Z0 zeroD
  have tA : (Z0.alloc (.cells #[.slice none 0 0, .int .i64 0, .slice none 0 0, .int .i64 0, .int .i64 0, .int .i64 0, .slice none 0 0] 38)).heap.size = Z0.heap.size + 1 := by simp
  obtain ⟨Z17, hZ⟩ : ∃ z, z = Z0.alloc (.cells #[.slice none 0 0, .int .i64 0, .slice none 0 0, .int .i64 0, .int .i64 0, .int .i64 0, .slice none 0 0] 38) := ⟨_, rfl⟩
  rw [← hZ] at bA eA tA ⊢
  clear hZ
  have T17 := Lib.hid tA
  have HB := Lib.hid (HB.out.trans (bA.mono HB.out.size))
  have HE1 := Lib.hid eA
  clear bA eA tA
  refine hK.out _ _ ⟨fun _ => HB.out, ?_⟩
  have hHeld := HB.out
  clear hK
  try simp only [Act.put, List.setIfInBounds_toArray, List.set_cons_zero, List.set_cons_succ]
  refine AnyE.twoF (i := 1) (j := 5) rfl rfl (by kernel_rfl) (by kernel_rfl) (by kernel_rfl) (fun KK hK => ?_) (fun KK hK => ?_)
  ·go_simp
   go_at_call 6
   refine (HEn.out _ HB.out).mono ?_
   rintro e9 Z18 ⟨⟨vr, fmD1, vq, tsD1, sqD1, kdD1, vv, rwD1, qlD1, vlD1⟩, rfl, hs9, hl9, b9, ha9⟩
   obtain ⟨pD1, mD1, cD1, e1⟩ := hl9.1.form
   obtain ⟨pqD1, mqD1, cqD1, e2⟩ := hl9.2.1.form
   obtain ⟨pvD1, mvD1, cvD1, e3⟩ := hl9.2.2.form
   simp only at e1 e2 e3
   subst e1 e2 e3
   have T18 : Hid (Z17.heap.size ≤ Z18.heap.size) := b9.size
   have Hnew := Lib.hid (Md.new hs9 hl9 ha9)
   have HB := Lib.hid (HB.out.trans (b9.mono HB.out.size))
   have HE1 := Lib.hid (HE1.out.later b9)
   have HM1 := Hnew
   clear Hnew hs9 hl9 ha9 b9
   simp only [EntD.cells]
   go_wp2_with fail
   refine hK.out _ _ ⟨fun _ => HB.out, ?_⟩
   have hHeld := HB.out
   clear hK
   try simp only [Act.put, List.setIfInBounds_toArray, List.set_cons_zero, List.set_cons_succ]
   refine AnyE.twoF (i := 3) (j := 5) rfl rfl (by kernel_rfl) (by kernel_rfl) (by kernel_rfl) (fun KK hK => ?_) (fun KK hK => ?_)
   ·go_simp
    go_at_call 6
    refine (HEn.out _ HB.out).mono ?_
    rintro e9 Z19 ⟨⟨vr, fmD2, vq, tsD2, sqD2, kdD2, vv, rwD2, qlD2, vlD2⟩, rfl, hs9, hl9, b9, ha9⟩
    obtain ⟨pD2, mD2, cD2, e1⟩ := hl9.1.form
    obtain ⟨pqD2, mqD2, cqD2, e2⟩ := hl9.2.1.form
    obtain ⟨pvD2, mvD2, cvD2, e3⟩ := hl9.2.2.form
    simp only at e1 e2 e3
    subst e1 e2 e3
    have T19 : Hid (Z18.heap.size ≤ Z19.heap.size) := b9.size
    have Hnew := Lib.hid (Md.new hs9 hl9 ha9)
    have HB := Lib.hid (HB.out.trans (b9.mono HB.out.size))
    have HM1 := Lib.hid (HM1.out.later b9)
    have HE1 := Lib.hid (HE1.out.later b9)
    have HM2 := Hnew
    clear Hnew hs9 hl9 ha9 b9
    simp only [EntD.cells]
    go_wp2_with fail
    refine hK.out _ _ ⟨fun _ => HB.out, ?_⟩
    have hHeld := HB.out
    clear hK
    try simp only [Act.put, List.setIfInBounds_toArray, List.set_cons_zero, List.set_cons_succ]
    refine AnyE.one (i := 5) rfl (by kernel_rfl) (by kernel_rfl) (fun KK hK => ?_)
    go_simp
    have bA := (Below.refl Z19.heap.size Z19).alloc (Nat.le_refl _) (.cells #[.slice none 0 0, .int .i64 0, .slice none 0 0, .int .i64 0, .int .i64 0, .int .i64 0, .slice none 0 0] 38)
    have eA : EBox (Z19.alloc (.cells #[.slice none 0 0, .int .i64 0, .slice none 0 0, .int .i64 0, .int .i64 0, .int .i64 0, .slice none 0 0] 38)) Z19.heap.size zeroD := EBox.new Z19 zeroD
    have tA : (Z19.alloc (.cells #[.slice none 0 0, .int .i64 0, .slice none 0 0, .int .i64 0, .int .i64 0, .int .i64 0, .slice none 0 0] 38)).heap.size = Z19.heap.size + 1 := by simp
    obtain ⟨Z20, hZ⟩ : ∃ z, z = Z19.alloc (.cells #[.slice none 0 0, .int .i64 0, .slice none 0 0, .int .i64 0, .int .i64 0, .int .i64 0, .slice none 0 0] 38) := ⟨_, rfl⟩
    rw [← hZ] at bA eA tA ⊢
    clear hZ
    have T20 := Lib.hid tA
    have HB := Lib.hid (HB.out.trans (bA.mono HB.out.size))
    have HM1 := Lib.hid (HM1.out.later bA)
    have HM2 := Lib.hid (HM2.out.later bA)
    have HE1 := Lib.hid (HE1.out.later bA)
    have HE2 := Lib.hid eA
    clear bA eA tA
    refine hK.out _ _ ⟨fun _ => HB.out, ?_⟩
    have hHeld := HB.out
    clear hK
    try simp only [Act.put, List.setIfInBounds_toArray, List.set_cons_zero, List.set_cons_succ]
    have HPr := Lib.hid (pair_of HB.out HM1.out HM2.out HE1.out HE2.out (by have h0 := HB0.out; have q17 := T17.out; have q18 := T18.out; have q19 := T19.out; have q20 := T20.out; omega) (by have h0 := HB0.out; have q17 := T17.out; have q18 := T18.out; have q19 := T19.out; have q20 := T20.out; omega) (by have h0 := HB0.out; have q17 := T17.out; have q18 := T18.out; have q19 := T19.out; have q20 := T20.out; omega) (by have h0 := HB0.out; have q17 := T17.out; have q18 := T18.out; have q19 := T19.out; have q20 := T20.out; omega) (by have h0 := HB0.out; have q17 := T17.out; have q18 := T18.out; have q19 := T19.out; have q20 := T20.out; omega))
    have hb1 : wr.heap.size ≤ Z0.heap.size := by have h0 := HB0.out; have q17 := T17.out; have q18 := T18.out; have q19 := T19.out; have q20 := T20.out; omega
    have hb2 : wr.heap.size ≤ Z19.heap.size := by have h0 := HB0.out; have q17 := T17.out; have q18 := T18.out; have q19 := T19.out; have q20 := T20.out; omega
    have hne : Z19.heap.size ≠ Z0.heap.size := by have h0 := HB0.out; have q17 := T17.out; have q18 := T18.out; have q19 := T19.out; have q20 := T20.out; omega
    have HS1 := Lib.hid (below_filled HB.out hb1 (EntD.mk (.slice pD1 mD1 cD1) fmD1 (.slice pqD1 mqD1 cqD1) tsD1 sqD1 kdD1 (.slice pvD1 mvD1 cvD1) rwD1 qlD1 vlD1))
    have HS2 := Lib.hid (below_filled HS1.out hb2 (EntD.mk (.slice pD2 mD2 cD2) fmD2 (.slice pqD2 mqD2 cqD2) tsD2 sqD2 kdD2 (.slice pvD2 mvD2 cvD2) rwD2 qlD2 vlD2))
    have HE3 := Lib.hid (show EBox (filled Z20 (Z0.heap.size) (EntD.mk (.slice pD1 mD1 cD1) fmD1 (.slice pqD1 mqD1 cqD1) tsD1 sqD1 kdD1 (.slice pvD1 mvD1 cvD1) rwD1 qlD1 vlD1)) (Z19.heap.size) zeroD from ((filled_fb Z20 (Z0.heap.size) (EntD.mk (.slice pD1 mD1 cD1) fmD1 (.slice pqD1 mqD1 cqD1) tsD1 sqD1 kdD1 (.slice pvD1 mvD1 cvD1) rwD1 qlD1 vlD1)).block _ (Array.getElem?_eq_some_iff.1 HE2.out).1 hne).trans HE2.out)
    obtain ⟨z0, z1, z2, z3, z4, z5, z6⟩ := HE1.out.cells7
    obtain ⟨f0, f1, f2, f3, f4, f5, f6⟩ := HE1.out.fz7
    simp only [zeroD] at z0 z1 z2 z3 z4 z5 z6
    obtain ⟨y0, y1, y2, y3, y4, y5, y6⟩ := HE3.out.cells7
    obtain ⟨g0, g1, g2, g3, g4, g5, g6⟩ := HE3.out.fz7
    simp only [zeroD, filled] at y0 y1 y2 y3 y4 y5 y6 g0 g1 g2 g3 g4 g5 g6
    clear hHeld hb1 hb2 hne
    refine AnyE.one (i := 6) rfl (by kernel_rfl) (by kernel_rfl) (fun KK hK => ?_)
    go_simp
    refine hK.out _ _ ⟨fun _ => HS1.out, ?_⟩
    clear hK z0 z1 z2 z3 z4 z5 z6 f0 f1 f2 f3 f4 f5 f6
    try simp only [Act.put, List.setIfInBounds_toArray, List.set_cons_zero, List.set_cons_succ]
    refine AnyE.one (i := 7) rfl (by kernel_rfl) (by kernel_rfl) (fun KK hK => ?_)
    go_simp
    refine hK.out _ _ ⟨fun _ => HS2.out, ?_⟩
    clear hK
    refine AnyE.done (by kernel_rfl) (NoPanic.normal ?_) _
    exact hQ.out _ _ _ _ _ HPr.out
   ·go_simp
    have bA := (Below.refl Z18.heap.size Z18).alloc (Nat.le_refl _) (.cells #[.slice none 0 0, .int .i64 0, .slice none 0 0, .int .i64 0, .int .i64 0, .int .i64 0, .slice none 0 0] 38)
    have eA : EBox (Z18.alloc (.cells #[.slice none 0 0, .int .i64 0, .slice none 0 0, .int .i64 0, .int .i64 0, .int .i64 0, .slice none 0 0] 38)) Z18.heap.size zeroD := EBox.new Z18 zeroD
    have tA : (Z18.alloc (.cells #[.slice none 0 0, .int .i64 0, .slice none 0 0, .int .i64 0, .int .i64 0, .int .i64 0, .slice none 0 0] 38)).heap.size = Z18.heap.size + 1 := by simp
    obtain ⟨Z21, hZ⟩ : ∃ z, z = Z18.alloc (.cells #[.slice none 0 0, .int .i64 0, .slice none 0 0, .int .i64 0, .int .i64 0, .int .i64 0, .slice none 0 0] 38) := ⟨_, rfl⟩
    rw [← hZ] at bA eA tA ⊢
    clear hZ
    have T21 := Lib.hid tA
    have HB := Lib.hid (HB.out.trans (bA.mono HB.out.size))
    have HM1 := Lib.hid (HM1.out.later bA)
    have HE1 := Lib.hid (HE1.out.later bA)
    have HE2 := Lib.hid eA
    clear bA eA tA
    refine hK.out _ _ ⟨fun _ => HB.out, ?_⟩
    have hHeld := HB.out
    clear hK
    try simp only [Act.put, List.setIfInBounds_toArray, List.set_cons_zero, List.set_cons_succ]
    refine AnyE.one (i := 3) rfl (by kernel_rfl) (by kernel_rfl) (fun KK hK => ?_)
    go_simp
    go_at_call 6
    refine (HEn.out _ HB.out).mono ?_
    rintro e9 Z22 ⟨⟨vr, fmD2, vq, tsD2, sqD2, kdD2, vv, rwD2, qlD2, vlD2⟩, rfl, hs9, hl9, b9, ha9⟩
    obtain ⟨pD2, mD2, cD2, e1⟩ := hl9.1.form
    obtain ⟨pqD2, mqD2, cqD2, e2⟩ := hl9.2.1.form
    obtain ⟨pvD2, mvD2, cvD2, e3⟩ := hl9.2.2.form
    simp only at e1 e2 e3
    subst e1 e2 e3
    have T22 : Hid (Z21.heap.size ≤ Z22.heap.size) := b9.size
    have Hnew := Lib.hid (Md.new hs9 hl9 ha9)
    have HB := Lib.hid (HB.out.trans (b9.mono HB.out.size))
    have HM1 := Lib.hid (HM1.out.later b9)
    have HE1 := Lib.hid (HE1.out.later b9)
    have HE2 := Lib.hid (HE2.out.later b9)
    have HM2 := Hnew
    clear Hnew hs9 hl9 ha9 b9
    simp only [EntD.cells]
    go_wp2_with fail
    refine hK.out _ _ ⟨fun _ => HB.out, ?_⟩
    have hHeld := HB.out
    clear hK
    try simp only [Act.put, List.setIfInBounds_toArray, List.set_cons_zero, List.set_cons_succ]
    have HPr := Lib.hid (pair_of HB.out HM1.out HM2.out HE1.out HE2.out (by have h0 := HB0.out; have q17 := T17.out; have q18 := T18.out; have q21 := T21.out; have q22 := T22.out; omega) (by have h0 := HB0.out; have q17 := T17.out; have q18 := T18.out; have q21 := T21.out; have q22 := T22.out; omega) (by have h0 := HB0.out; have q17 := T17.out; have q18 := T18.out; have q21 := T21.out; have q22 := T22.out; omega) (by have h0 := HB0.out; have q17 := T17.out; have q18 := T18.out; have q21 := T21.out; have q22 := T22.out; omega) (by have h0 := HB0.out; have q17 := T17.out; have q18 := T18.out; have q21 := T21.out; have q22 := T22.out; omega))
    have hb1 : wr.heap.size ≤ Z0.heap.size := by have h0 := HB0.out; have q17 := T17.out; have q18 := T18.out; have q21 := T21.out; have q22 := T22.out; omega
    have hb2 : wr.heap.size ≤ Z18.heap.size := by have h0 := HB0.out; have q17 := T17.out; have q18 := T18.out; have q21 := T21.out; have q22 := T22.out; omega
    have hne : Z18.heap.size ≠ Z0.heap.size := by have h0 := HB0.out; have q17 := T17.out; have q18 := T18.out; have q21 := T21.out; have q22 := T22.out; omega
    have HS1 := Lib.hid (below_filled HB.out hb1 (EntD.mk (.slice pD1 mD1 cD1) fmD1 (.slice pqD1 mqD1 cqD1) tsD1 sqD1 kdD1 (.slice pvD1 mvD1 cvD1) rwD1 qlD1 vlD1))
    have HS2 := Lib.hid (below_filled HS1.out hb2 (EntD.mk (.slice pD2 mD2 cD2) fmD2 (.slice pqD2 mqD2 cqD2) tsD2 sqD2 kdD2 (.slice pvD2 mvD2 cvD2) rwD2 qlD2 vlD2))
    have HE3 := Lib.hid (show EBox (filled Z22 (Z0.heap.size) (EntD.mk (.slice pD1 mD1 cD1) fmD1 (.slice pqD1 mqD1 cqD1) tsD1 sqD1 kdD1 (.slice pvD1 mvD1 cvD1) rwD1 qlD1 vlD1)) (Z18.heap.size) zeroD from ((filled_fb Z22 (Z0.heap.size) (EntD.mk (.slice pD1 mD1 cD1) fmD1 (.slice pqD1 mqD1 cqD1) tsD1 sqD1 kdD1 (.slice pvD1 mvD1 cvD1) rwD1 qlD1 vlD1)).block _ (Array.getElem?_eq_some_iff.1 HE2.out).1 hne).trans HE2.out)
    obtain ⟨z0, z1, z2, z3, z4, z5, z6⟩ := HE1.out.cells7
    obtain ⟨f0, f1, f2, f3, f4, f5, f6⟩ := HE1.out.fz7
    simp only [zeroD] at z0 z1 z2 z3 z4 z5 z6
    obtain ⟨y0, y1, y2, y3, y4, y5, y6⟩ := HE3.out.cells7
    obtain ⟨g0, g1, g2, g3, g4, g5, g6⟩ := HE3.out.fz7
    simp only [zeroD, filled] at y0 y1 y2 y3 y4 y5 y6 g0 g1 g2 g3 g4 g5 g6
    clear hHeld hb1 hb2 hne
    refine AnyE.one (i := 6) rfl (by kernel_rfl) (by kernel_rfl) (fun KK hK => ?_)
    go_simp
    refine hK.out _ _ ⟨fun _ => HS1.out, ?_⟩
    clear hK z0 z1 z2 z3 z4 z5 z6 f0 f1 f2 f3 f4 f5 f6
    try simp only [Act.put, List.setIfInBounds_toArray, List.set_cons_zero, List.set_cons_succ]
    refine AnyE.one (i := 7) rfl (by kernel_rfl) (by kernel_rfl) (fun KK hK => ?_)
    go_simp
    refine hK.out _ _ ⟨fun _ => HS2.out, ?_⟩
    clear hK
    refine AnyE.done (by kernel_rfl) (NoPanic.normal ?_) _
    exact hQ.out _ _ _ _ _ HPr.out
  ·go_simp
   have bA := (Below.refl Z17.heap.size Z17).alloc (Nat.le_refl _) (.cells #[.slice none 0 0, .int .i64 0, .slice none 0 0, .int .i64 0, .int .i64 0, .int .i64 0, .slice none 0 0] 38)
   have eA : EBox (Z17.alloc (.cells #[.slice none 0 0, .int .i64 0, .slice none 0 0, .int .i64 0, .int .i64 0, .int .i64 0, .slice none 0 0] 38)) Z17.heap.size zeroD := EBox.new Z17 zeroD
   have tA : (Z17.alloc (.cells #[.slice none 0 0, .int .i64 0, .slice none 0 0, .int .i64 0, .int .i64 0, .int .i64 0, .slice none 0 0] 38)).heap.size = Z17.heap.size + 1 := by simp
   obtain ⟨Z23, hZ⟩ : ∃ z, z = Z17.alloc (.cells #[.slice none 0 0, .int .i64 0, .slice none 0 0, .int .i64 0, .int .i64 0, .int .i64 0, .slice none 0 0] 38) := ⟨_, rfl⟩
   rw [← hZ] at bA eA tA ⊢
   clear hZ
   have T23 := Lib.hid tA
   have HB := Lib.hid (HB.out.trans (bA.mono HB.out.size))
   have HE1 := Lib.hid (HE1.out.later bA)
   have HE2 := Lib.hid eA
   clear bA eA tA
   refine hK.out _ _ ⟨fun _ => HB.out, ?_⟩
   have hHeld := HB.out
   clear hK
   try simp only [Act.put, List.setIfInBounds_toArray, List.set_cons_zero, List.set_cons_succ]
   refine AnyE.one (i := 1) rfl (by kernel_rfl) (by kernel_rfl) (fun KK hK => ?_)
   go_simp
   go_at_call 6
   refine (HEn.out _ HB.out).mono ?_
   rintro e9 Z24 ⟨⟨vr, fmD1, vq, tsD1, sqD1, kdD1, vv, rwD1, qlD1, vlD1⟩, rfl, hs9, hl9, b9, ha9⟩
   obtain ⟨pD1, mD1, cD1, e1⟩ := hl9.1.form
   obtain ⟨pqD1, mqD1, cqD1, e2⟩ := hl9.2.1.form
   obtain ⟨pvD1, mvD1, cvD1, e3⟩ := hl9.2.2.form
   simp only at e1 e2 e3
   subst e1 e2 e3
   have T24 : Hid (Z23.heap.size ≤ Z24.heap.size) := b9.size
   have Hnew := Lib.hid (Md.new hs9 hl9 ha9)
   have HB := Lib.hid (HB.out.trans (b9.mono HB.out.size))
   have HE1 := Lib.hid (HE1.out.later b9)
   have HE2 := Lib.hid (HE2.out.later b9)
   have HM1 := Hnew
   clear Hnew hs9 hl9 ha9 b9
   simp only [EntD.cells]
   go_wp2_with fail
   refine hK.out _ _ ⟨fun _ => HB.out, ?_⟩
   have hHeld := HB.out
   clear hK
   try simp only [Act.put, List.setIfInBounds_toArray, List.set_cons_zero, List.set_cons_succ]
   refine AnyE.one (i := 3) rfl (by kernel_rfl) (by kernel_rfl) (fun KK hK => ?_)
   go_simp
   go_at_call 6
   refine (HEn.out _ HB.out).mono ?_
   rintro e9 Z25 ⟨⟨vr, fmD2, vq, tsD2, sqD2, kdD2, vv, rwD2, qlD2, vlD2⟩, rfl, hs9, hl9, b9, ha9⟩
   obtain ⟨pD2, mD2, cD2, e1⟩ := hl9.1.form
   obtain ⟨pqD2, mqD2, cqD2, e2⟩ := hl9.2.1.form
   obtain ⟨pvD2, mvD2, cvD2, e3⟩ := hl9.2.2.form
   simp only at e1 e2 e3
   subst e1 e2 e3
   have T25 : Hid (Z24.heap.size ≤ Z25.heap.size) := b9.size
   have Hnew := Lib.hid (Md.new hs9 hl9 ha9)
   have HB := Lib.hid (HB.out.trans (b9.mono HB.out.size))
   have HM1 := Lib.hid (HM1.out.later b9)
   have HE1 := Lib.hid (HE1.out.later b9)
   have HE2 := Lib.hid (HE2.out.later b9)
   have HM2 := Hnew
   clear Hnew hs9 hl9 ha9 b9
   simp only [EntD.cells]
   go_wp2_with fail
   refine hK.out _ _ ⟨fun _ => HB.out, ?_⟩
   have hHeld := HB.out
   clear hK
   try simp only [Act.put, List.setIfInBounds_toArray, List.set_cons_zero, List.set_cons_succ]
   have HPr := Lib.hid (pair_of HB.out HM1.out HM2.out HE1.out HE2.out (by have h0 := HB0.out; have q17 := T17.out; have q23 := T23.out; have q24 := T24.out; have q25 := T25.out; omega) (by have h0 := HB0.out; have q17 := T17.out; have q23 := T23.out; have q24 := T24.out; have q25 := T25.out; omega) (by have h0 := HB0.out; have q17 := T17.out; have q23 := T23.out; have q24 := T24.out; have q25 := T25.out; omega) (by have h0 := HB0.out; have q17 := T17.out; have q23 := T23.out; have q24 := T24.out; have q25 := T25.out; omega) (by have h0 := HB0.out; have q17 := T17.out; have q23 := T23.out; have q24 := T24.out; have q25 := T25.out; omega))
   have hb1 : wr.heap.size ≤ Z0.heap.size := by have h0 := HB0.out; have q17 := T17.out; have q23 := T23.out; have q24 := T24.out; have q25 := T25.out; omega
   have hb2 : wr.heap.size ≤ Z17.heap.size := by have h0 := HB0.out; have q17 := T17.out; have q23 := T23.out; have q24 := T24.out; have q25 := T25.out; omega
   have hne : Z17.heap.size ≠ Z0.heap.size := by have h0 := HB0.out; have q17 := T17.out; have q23 := T23.out; have q24 := T24.out; have q25 := T25.out; omega
   have HS1 := Lib.hid (below_filled HB.out hb1 (EntD.mk (.slice pD1 mD1 cD1) fmD1 (.slice pqD1 mqD1 cqD1) tsD1 sqD1 kdD1 (.slice pvD1 mvD1 cvD1) rwD1 qlD1 vlD1))
   have HS2 := Lib.hid (below_filled HS1.out hb2 (EntD.mk (.slice pD2 mD2 cD2) fmD2 (.slice pqD2 mqD2 cqD2) tsD2 sqD2 kdD2 (.slice pvD2 mvD2 cvD2) rwD2 qlD2 vlD2))
   have HE3 := Lib.hid (show EBox (filled Z25 (Z0.heap.size) (EntD.mk (.slice pD1 mD1 cD1) fmD1 (.slice pqD1 mqD1 cqD1) tsD1 sqD1 kdD1 (.slice pvD1 mvD1 cvD1) rwD1 qlD1 vlD1)) (Z17.heap.size) zeroD from ((filled_fb Z25 (Z0.heap.size) (EntD.mk (.slice pD1 mD1 cD1) fmD1 (.slice pqD1 mqD1 cqD1) tsD1 sqD1 kdD1 (.slice pvD1 mvD1 cvD1) rwD1 qlD1 vlD1)).block _ (Array.getElem?_eq_some_iff.1 HE2.out).1 hne).trans HE2.out)
   obtain ⟨z0, z1, z2, z3, z4, z5, z6⟩ := HE1.out.cells7
   obtain ⟨f0, f1, f2, f3, f4, f5, f6⟩ := HE1.out.fz7
   simp only [zeroD] at z0 z1 z2 z3 z4 z5 z6
   obtain ⟨y0, y1, y2, y3, y4, y5, y6⟩ := HE3.out.cells7
   obtain ⟨g0, g1, g2, g3, g4, g5, g6⟩ := HE3.out.fz7
   simp only [zeroD, filled] at y0 y1 y2 y3 y4 y5 y6 g0 g1 g2 g3 g4 g5 g6
   clear hHeld hb1 hb2 hne
   refine AnyE.one (i := 6) rfl (by kernel_rfl) (by kernel_rfl) (fun KK hK => ?_)
   go_simp
   refine hK.out _ _ ⟨fun _ => HS1.out, ?_⟩
   clear hK z0 z1 z2 z3 z4 z5 z6 f0 f1 f2 f3 f4 f5 f6
   try simp only [Act.put, List.setIfInBounds_toArray, List.set_cons_zero, List.set_cons_succ]
   refine AnyE.one (i := 7) rfl (by kernel_rfl) (by kernel_rfl) (fun KK hK => ?_)
   go_simp
   refine hK.out _ _ ⟨fun _ => HS2.out, ?_⟩
   clear hK
   refine AnyE.done (by kernel_rfl) (NoPanic.normal ?_) _
   exact hQ.out _ _ _ _ _ HPr.out
 ·go_simp
  have bA := (Below.refl Z0.heap.size Z0).alloc (Nat.le_refl _) (.cells #[.slice none 0 0, .int .i64 0, .slice none 0 0, .int .i64 0, .int .i64 0, .int .i64 0, .slice none 0 0] 38)
  have eA : EBox (Z0.alloc (.cells #[.slice none 0 0, .int .i64 0, .slice none 0 0, .int .i64 0, .int .i64 0, .int .i64 0, .slice none 0 0] 38)) Z0.heap.size zeroD := EBox.new Z0 zeroD
  have tA : (Z0.alloc (.cells #[.slice none 0 0, .int .i64 0, .slice none 0 0, .int .i64 0, .int .i64 0, .int .i64 0, .slice none 0 0] 38)).heap.size = Z0.heap.size + 1 := by simp
  obtain ⟨Z26, hZ⟩ : ∃ z, z = Z0.alloc (.cells #[.slice none 0 0, .int .i64 0, .slice none 0 0, .int .i64 0, .int .i64 0, .int .i64 0, .slice none 0 0] 38) := ⟨_, rfl⟩
  rw [← hZ] at bA eA tA ⊢
  clear hZ
  have T26 := Lib.hid tA
  have HB := Lib.hid (HB.out.trans (bA.mono HB.out.size))
  have HE2 := Lib.hid eA
  clear bA eA tA
  refine hK.out _ _ ⟨fun _ => HB.out, ?_⟩
  have hHeld := HB.out
  clear hK
  try simp only [Act.put, List.setIfInBounds_toArray, List.set_cons_zero, List.set_cons_succ]
  refine AnyE.twoF (i := 1) (j := 4) rfl rfl (by kernel_rfl) (by kernel_rfl) (by kernel_rfl) (fun KK hK => ?_) (fun KK hK => ?_)
  ·go_simp
   go_at_call 6
   refine (HEn.out _ HB.out).mono ?_
   rintro e9 Z27 ⟨⟨vr, fmD1, vq, tsD1, sqD1, kdD1, vv, rwD1, qlD1, vlD1⟩, rfl, hs9, hl9, b9, ha9⟩
   obtain ⟨pD1, mD1, cD1, e1⟩ := hl9.1.form
   obtain ⟨pqD1, mqD1, cqD1, e2⟩ := hl9.2.1.form
   obtain ⟨pvD1, mvD1, cvD1, e3⟩ := hl9.2.2.form
   simp only at e1 e2 e3
   subst e1 e2 e3
   have T27 : Hid (Z26.heap.size ≤ Z27.heap.size) := b9.size
   have Hnew := Lib.hid (Md.new hs9 hl9 ha9)
   have HB := Lib.hid (HB.out.trans (b9.mono HB.out.size))
   have HE2 := Lib.hid (HE2.out.later b9)
   have HM1 := Hnew
   clear Hnew hs9 hl9 ha9 b9
   simp only [EntD.cells]
   go_wp2_with fail
   refine hK.out _ _ ⟨fun _ => HB.out, ?_⟩
   have hHeld := HB.out
   clear hK
   try simp only [Act.put, List.setIfInBounds_toArray, List.set_cons_zero, List.set_cons_succ]
   refine AnyE.twoF (i := 3) (j := 4) rfl rfl (by kernel_rfl) (by kernel_rfl) (by kernel_rfl) (fun KK hK => ?_) (fun KK hK => ?_)
   ·go_simp
    go_at_call 6
    refine (HEn.out _ HB.out).mono ?_
    rintro e9 Z28 ⟨⟨vr, fmD2, vq, tsD2, sqD2, kdD2, vv, rwD2, qlD2, vlD2⟩, rfl, hs9, hl9, b9, ha9⟩
    obtain ⟨pD2, mD2, cD2, e1⟩ := hl9.1.form
    obtain ⟨pqD2, mqD2, cqD2, e2⟩ := hl9.2.1.form
    obtain ⟨pvD2, mvD2, cvD2, e3⟩ := hl9.2.2.form
    simp only at e1 e2 e3
    subst e1 e2 e3
    have T28 : Hid (Z27.heap.size ≤ Z28.heap.size) := b9.size
    have Hnew := Lib.hid (Md.new hs9 hl9 ha9)
    have HB := Lib.hid (HB.out.trans (b9.mono HB.out.size))
    have HM1 := Lib.hid (HM1.out.later b9)
    have HE2 := Lib.hid (HE2.out.later b9)
    have HM2 := Hnew
    clear Hnew hs9 hl9 ha9 b9
    simp only [EntD.cells]
    go_wp2_with fail
    refine hK.out _ _ ⟨fun _ => HB.out, ?_⟩
    have hHeld := HB.out
    clear hK
    try simp only [Act.put, List.setIfInBounds_toArray, List.set_cons_zero, List.set_cons_succ]
    refine AnyE.one (i := 4) rfl (by kernel_rfl) (by kernel_rfl) (fun KK hK => ?_)
    go_simp
    have bA := (Below.refl Z28.heap.size Z28).alloc (Nat.le_refl _) (.cells #[.slice none 0 0, .int .i64 0, .slice none 0 0, .int .i64 0, .int .i64 0, .int .i64 0, .slice none 0 0] 38)
    have eA : EBox (Z28.alloc (.cells #[.slice none 0 0, .int .i64 0, .slice none 0 0, .int .i64 0, .int .i64 0, .int .i64 0, .slice none 0 0] 38)) Z28.heap.size zeroD := EBox.new Z28 zeroD
    have tA : (Z28.alloc (.cells #[.slice none 0 0, .int .i64 0, .slice none 0 0, .int .i64 0, .int .i64 0, .int .i64 0, .slice none 0 0] 38)).heap.size = Z28.heap.size + 1 := by simp
    obtain ⟨Z29, hZ⟩ : ∃ z, z = Z28.alloc (.cells #[.slice none 0 0, .int .i64 0, .slice none 0 0, .int .i64 0, .int .i64 0, .int .i64 0, .slice none 0 0] 38) := ⟨_, rfl⟩
    rw [← hZ] at bA eA tA ⊢
    clear hZ
    have T29 := Lib.hid tA
    have HB := Lib.hid (HB.out.trans (bA.mono HB.out.size))
    have HM1 := Lib.hid (HM1.out.later bA)
    have HM2 := Lib.hid (HM2.out.later bA)
    have HE2 := Lib.hid (HE2.out.later bA)
    have HE1 := Lib.hid eA
    clear bA eA tA
    refine hK.out _ _ ⟨fun _ => HB.out, ?_⟩
    have hHeld := HB.out
    clear hK
    try simp only [Act.put, List.setIfInBounds_toArray, List.set_cons_zero, List.set_cons_succ]
    have HPr := Lib.hid (pair_of HB.out HM1.out HM2.out HE1.out HE2.out (by have h0 := HB0.out; have q26 := T26.out; have q27 := T27.out; have q28 := T28.out; have q29 := T29.out; omega) (by have h0 := HB0.out; have q26 := T26.out; have q27 := T27.out; have q28 := T28.out; have q29 := T29.out; omega) (by have h0 := HB0.out; have q26 := T26.out; have q27 := T27.out; have q28 := T28.out; have q29 := T29.out; omega) (by have h0 := HB0.out; have q26 := T26.out; have q27 := T27.out; have q28 := T28.out; have q29 := T29.out; omega) (by have h0 := HB0.out; have q26 := T26.out; have q27 := T27.out; have q28 := T28.out; have q29 := T29.out; omega))
    have hb1 : wr.heap.size ≤ Z28.heap.size := by have h0 := HB0.out; have q26 := T26.out; have q27 := T27.out; have q28 := T28.out; have q29 := T29.out; omega
    have hb2 : wr.heap.size ≤ Z0.heap.size := by have h0 := HB0.out; have q26 := T26.out; have q27 := T27.out; have q28 := T28.out; have q29 := T29.out; omega
    have hne : Z0.heap.size ≠ Z28.heap.size := by have h0 := HB0.out; have q26 := T26.out; have q27 := T27.out; have q28 := T28.out; have q29 := T29.out; omega
    have HS1 := Lib.hid (below_filled HB.out hb1 (EntD.mk (.slice pD1 mD1 cD1) fmD1 (.slice pqD1 mqD1 cqD1) tsD1 sqD1 kdD1 (.slice pvD1 mvD1 cvD1) rwD1 qlD1 vlD1))
    have HS2 := Lib.hid (below_filled HS1.out hb2 (EntD.mk (.slice pD2 mD2 cD2) fmD2 (.slice pqD2 mqD2 cqD2) tsD2 sqD2 kdD2 (.slice pvD2 mvD2 cvD2) rwD2 qlD2 vlD2))
    have HE3 := Lib.hid (show EBox (filled Z29 (Z28.heap.size) (EntD.mk (.slice pD1 mD1 cD1) fmD1 (.slice pqD1 mqD1 cqD1) tsD1 sqD1 kdD1 (.slice pvD1 mvD1 cvD1) rwD1 qlD1 vlD1)) (Z0.heap.size) zeroD from ((filled_fb Z29 (Z28.heap.size) (EntD.mk (.slice pD1 mD1 cD1) fmD1 (.slice pqD1 mqD1 cqD1) tsD1 sqD1 kdD1 (.slice pvD1 mvD1 cvD1) rwD1 qlD1 vlD1)).block _ (Array.getElem?_eq_some_iff.1 HE2.out).1 hne).trans HE2.out)
    obtain ⟨z0, z1, z2, z3, z4, z5, z6⟩ := HE1.out.cells7
    obtain ⟨f0, f1, f2, f3, f4, f5, f6⟩ := HE1.out.fz7
    simp only [zeroD] at z0 z1 z2 z3 z4 z5 z6
    obtain ⟨y0, y1, y2, y3, y4, y5, y6⟩ := HE3.out.cells7
    obtain ⟨g0, g1, g2, g3, g4, g5, g6⟩ := HE3.out.fz7
    simp only [zeroD, filled] at y0 y1 y2 y3 y4 y5 y6 g0 g1 g2 g3 g4 g5 g6
    clear hHeld hb1 hb2 hne
    refine AnyE.one (i := 6) rfl (by kernel_rfl) (by kernel_rfl) (fun KK hK => ?_)
    go_simp
    refine hK.out _ _ ⟨fun _ => HS1.out, ?_⟩
    clear hK z0 z1 z2 z3 z4 z5 z6 f0 f1 f2 f3 f4 f5 f6
    try simp only [Act.put, List.setIfInBounds_toArray, List.set_cons_zero, List.set_cons_succ]
    refine AnyE.one (i := 7) rfl (by kernel_rfl) (by kernel_rfl) (fun KK hK => ?_)
    go_simp
    refine hK.out _ _ ⟨fun _ => HS2.out, ?_⟩
    clear hK
    refine AnyE.done (by kernel_rfl) (NoPanic.normal ?_) _
    exact hQ.out _ _ _ _ _ HPr.out
   ·go_simp
    have bA := (Below.refl Z27.heap.size Z27).alloc (Nat.le_refl _) (.cells #[.slice none 0 0, .int .i64 0, .slice none 0 0, .int .i64 0, .int .i64 0, .int .i64 0, .slice none 0 0] 38)
    have eA : EBox (Z27.alloc (.cells #[.slice none 0 0, .int .i64 0, .slice none 0 0, .int .i64 0, .int .i64 0, .int .i64 0, .slice none 0 0] 38)) Z27.heap.size zeroD := EBox.new Z27 zeroD
    have tA : (Z27.alloc (.cells #[.slice none 0 0, .int .i64 0, .slice none 0 0, .int .i64 0, .int .i64 0, .int .i64 0, .slice none 0 0] 38)).heap.size = Z27.heap.size + 1 := by simp
    obtain ⟨Z30, hZ⟩ : ∃ z, z = Z27.alloc (.cells #[.slice none 0 0, .int .i64 0, .slice none 0 0, .int .i64 0, .int .i64 0, .int .i64 0, .slice none 0 0] 38) := ⟨_, rfl⟩
    rw [← hZ] at bA eA tA ⊢
    clear hZ
    have T30 := Lib.hid tA
    have HB := Lib.hid (HB.out.trans (bA.mono HB.out.size))
    have HM1 := Lib.hid (HM1.out.later bA)
    have HE2 := Lib.hid (HE2.out.later bA)
    have HE1 := Lib.hid eA
    clear bA eA tA
    refine hK.out _ _ ⟨fun _ => HB.out, ?_⟩
    have hHeld := HB.out
    clear hK
    try simp only [Act.put, List.setIfInBounds_toArray, List.set_cons_zero, List.set_cons_succ]
    refine AnyE.one (i := 3) rfl (by kernel_rfl) (by kernel_rfl) (fun KK hK => ?_)
    go_simp
    go_at_call 6
    refine (HEn.out _ HB.out).mono ?_
    rintro e9 Z31 ⟨⟨vr, fmD2, vq, tsD2, sqD2, kdD2, vv, rwD2, qlD2, vlD2⟩, rfl, hs9, hl9, b9, ha9⟩
    obtain ⟨pD2, mD2, cD2, e1⟩ := hl9.1.form
    obtain ⟨pqD2, mqD2, cqD2, e2⟩ := hl9.2.1.form
    obtain ⟨pvD2, mvD2, cvD2, e3⟩ := hl9.2.2.form
    simp only at e1 e2 e3
    subst e1 e2 e3
    have T31 : Hid (Z30.heap.size ≤ Z31.heap.size) := b9.size
    have Hnew := Lib.hid (Md.new hs9 hl9 ha9)
    have HB := Lib.hid (HB.out.trans (b9.mono HB.out.size))
    have HM1 := Lib.hid (HM1.out.later b9)
    have HE1 := Lib.hid (HE1.out.later b9)
    have HE2 := Lib.hid (HE2.out.later b9)
    have HM2 := Hnew
    clear Hnew hs9 hl9 ha9 b9
    simp only [EntD.cells]
    go_wp2_with fail
    refine hK.out _ _ ⟨fun _ => HB.out, ?_⟩
    have hHeld := HB.out
    clear hK
    try simp only [Act.put, List.setIfInBounds_toArray, List.set_cons_zero, List.set_cons_succ]
    have HPr := Lib.hid (pair_of HB.out HM1.out HM2.out HE1.out HE2.out (by have h0 := HB0.out; have q26 := T26.out; have q27 := T27.out; have q30 := T30.out; have q31 := T31.out; omega) (by have h0 := HB0.out; have q26 := T26.out; have q27 := T27.out; have q30 := T30.out; have q31 := T31.out; omega) (by have h0 := HB0.out; have q26 := T26.out; have q27 := T27.out; have q30 := T30.out; have q31 := T31.out; omega) (by have h0 := HB0.out; have q26 := T26.out; have q27 := T27.out; have q30 := T30.out; have q31 := T31.out; omega) (by have h0 := HB0.out; have q26 := T26.out; have q27 := T27.out; have q30 := T30.out; have q31 := T31.out; omega))
    have hb1 : wr.heap.size ≤ Z27.heap.size := by have h0 := HB0.out; have q26 := T26.out; have q27 := T27.out; have q30 := T30.out; have q31 := T31.out; omega
    have hb2 : wr.heap.size ≤ Z0.heap.size := by have h0 := HB0.out; have q26 := T26.out; have q27 := T27.out; have q30 := T30.out; have q31 := T31.out; omega
    have hne : Z0.heap.size ≠ Z27.heap.size := by have h0 := HB0.out; have q26 := T26.out; have q27 := T27.out; have q30 := T30.out; have q31 := T31.out; omega
    have HS1 := Lib.hid (below_filled HB.out hb1 (EntD.mk (.slice pD1 mD1 cD1) fmD1 (.slice pqD1 mqD1 cqD1) tsD1 sqD1 kdD1 (.slice pvD1 mvD1 cvD1) rwD1 qlD1 vlD1))
    have HS2 := Lib.hid (below_filled HS1.out hb2 (EntD.mk (.slice pD2 mD2 cD2) fmD2 (.slice pqD2 mqD2 cqD2) tsD2 sqD2 kdD2 (.slice pvD2 mvD2 cvD2) rwD2 qlD2 vlD2))
    have HE3 := Lib.hid (show EBox (filled Z31 (Z27.heap.size) (EntD.mk (.slice pD1 mD1 cD1) fmD1 (.slice pqD1 mqD1 cqD1) tsD1 sqD1 kdD1 (.slice pvD1 mvD1 cvD1) rwD1 qlD1 vlD1)) (Z0.heap.size) zeroD from ((filled_fb Z31 (Z27.heap.size) (EntD.mk (.slice pD1 mD1 cD1) fmD1 (.slice pqD1 mqD1 cqD1) tsD1 sqD1 kdD1 (.slice pvD1 mvD1 cvD1) rwD1 qlD1 vlD1)).block _ (Array.getElem?_eq_some_iff.1 HE2.out).1 hne).trans HE2.out)
    obtain ⟨z0, z1, z2, z3, z4, z5, z6⟩ := HE1.out.cells7
    obtain ⟨f0, f1, f2, f3, f4, f5, f6⟩ := HE1.out.fz7
    simp only [zeroD] at z0 z1 z2 z3 z4 z5 z6
    obtain ⟨y0, y1, y2, y3, y4, y5, y6⟩ := HE3.out.cells7
    obtain ⟨g0, g1, g2, g3, g4, g5, g6⟩ := HE3.out.fz7
    simp only [zeroD, filled] at y0 y1 y2 y3 y4 y5 y6 g0 g1 g2 g3 g4 g5 g6
    clear hHeld hb1 hb2 hne
    refine AnyE.one (i := 6) rfl (by kernel_rfl) (by kernel_rfl) (fun KK hK => ?_)
    go_simp
    refine hK.out _ _ ⟨fun _ => HS1.out, ?_⟩
    clear hK z0 z1 z2 z3 z4 z5 z6 f0 f1 f2 f3 f4 f5 f6
    try simp only [Act.put, List.setIfInBounds_toArray, List.set_cons_zero, List.set_cons_succ]
    refine AnyE.one (i := 7) rfl (by kernel_rfl) (by kernel_rfl) (fun KK hK => ?_)
    go_simp
    refine hK.out _ _ ⟨fun _ => HS2.out, ?_⟩
    clear hK
    refine AnyE.done (by kernel_rfl) (NoPanic.normal ?_) _
    exact hQ.out _ _ _ _ _ HPr.out
  ·go_simp
   have bA := (Below.refl Z26.heap.size Z26).alloc (Nat.le_refl _) (.cells #[.slice none 0 0, .int .i64 0, .slice none 0 0, .int .i64 0, .int .i64 0, .int .i64 0, .slice none 0 0] 38)
   have eA : EBox (Z26.alloc (.cells #[.slice none 0 0, .int .i64 0, .slice none 0 0, .int .i64 0, .int .i64 0, .int .i64 0, .slice none 0 0] 38)) Z26.heap.size zeroD := EBox.new Z26 zeroD
   have tA : (Z26.alloc (.cells #[.slice none 0 0, .int .i64 0, .slice none 0 0, .int .i64 0, .int .i64 0, .int .i64 0, .slice none 0 0] 38)).heap.size = Z26.heap.size + 1 := by simp
   obtain ⟨Z32, hZ⟩ : ∃ z, z = Z26.alloc (.cells #[.slice none 0 0, .int .i64 0, .slice none 0 0, .int .i64 0, .int .i64 0, .int .i64 0, .slice none 0 0] 38) := ⟨_, rfl⟩
   rw [← hZ] at bA eA tA ⊢
   clear hZ
   have T32 := Lib.hid tA
   have HB := Lib.hid (HB.out.trans (bA.mono HB.out.size))
   have HE2 := Lib.hid (HE2.out.later bA)
   have HE1 := Lib.hid eA
   clear bA eA tA
   refine hK.out _ _ ⟨fun _ => HB.out, ?_⟩
   have hHeld := HB.out
   clear hK
   try simp only [Act.put, List.setIfInBounds_toArray, List.set_cons_zero, List.set_cons_succ]
   refine AnyE.one (i := 1) rfl (by kernel_rfl) (by kernel_rfl) (fun KK hK => ?_)
   go_simp
   go_at_call 6
   refine (HEn.out _ HB.out).mono ?_
   rintro e9 Z33 ⟨⟨vr, fmD1, vq, tsD1, sqD1, kdD1, vv, rwD1, qlD1, vlD1⟩, rfl, hs9, hl9, b9, ha9⟩
   obtain ⟨pD1, mD1, cD1, e1⟩ := hl9.1.form
   obtain ⟨pqD1, mqD1, cqD1, e2⟩ := hl9.2.1.form
   obtain ⟨pvD1, mvD1, cvD1, e3⟩ := hl9.2.2.form
   simp only at e1 e2 e3
   subst e1 e2 e3
   have T33 : Hid (Z32.heap.size ≤ Z33.heap.size) := b9.size
   have Hnew := Lib.hid (Md.new hs9 hl9 ha9)
   have HB := Lib.hid (HB.out.trans (b9.mono HB.out.size))
   have HE1 := Lib.hid (HE1.out.later b9)
   have HE2 := Lib.hid (HE2.out.later b9)
   have HM1 := Hnew
   clear Hnew hs9 hl9 ha9 b9
   simp only [EntD.cells]
   go_wp2_with fail
   refine hK.out _ _ ⟨fun _ => HB.out, ?_⟩
   have hHeld := HB.out
   clear hK
   try simp only [Act.put, List.setIfInBounds_toArray, List.set_cons_zero, List.set_cons_succ]
   refine AnyE.one (i := 3) rfl (by kernel_rfl) (by kernel_rfl) (fun KK hK => ?_)
   go_simp
   go_at_call 6
   refine (HEn.out _ HB.out).mono ?_
   rintro e9 Z34 ⟨⟨vr, fmD2, vq, tsD2, sqD2, kdD2, vv, rwD2, qlD2, vlD2⟩, rfl, hs9, hl9, b9, ha9⟩
   obtain ⟨pD2, mD2, cD2, e1⟩ := hl9.1.form
   obtain ⟨pqD2, mqD2, cqD2, e2⟩ := hl9.2.1.form
   obtain ⟨pvD2, mvD2, cvD2, e3⟩ := hl9.2.2.form
   simp only at e1 e2 e3
   subst e1 e2 e3
   have T34 : Hid (Z33.heap.size ≤ Z34.heap.size) := b9.size
   have Hnew := Lib.hid (Md.new hs9 hl9 ha9)
   have HB := Lib.hid (HB.out.trans (b9.mono HB.out.size))
   have HM1 := Lib.hid (HM1.out.later b9)
   have HE1 := Lib.hid (HE1.out.later b9)
   have HE2 := Lib.hid (HE2.out.later b9)
   have HM2 := Hnew
   clear Hnew hs9 hl9 ha9 b9
   simp only [EntD.cells]
   go_wp2_with fail
   refine hK.out _ _ ⟨fun _ => HB.out, ?_⟩
   have hHeld := HB.out
   clear hK
   try simp only [Act.put, List.setIfInBounds_toArray, List.set_cons_zero, List.set_cons_succ]
   have HPr := Lib.hid (pair_of HB.out HM1.out HM2.out HE1.out HE2.out (by have h0 := HB0.out; have q26 := T26.out; have q32 := T32.out; have q33 := T33.out; have q34 := T34.out; omega) (by have h0 := HB0.out; have q26 := T26.out; have q32 := T32.out; have q33 := T33.out; have q34 := T34.out; omega) (by have h0 := HB0.out; have q26 := T26.out; have q32 := T32.out; have q33 := T33.out; have q34 := T34.out; omega) (by have h0 := HB0.out; have q26 := T26.out; have q32 := T32.out; have q33 := T33.out; have q34 := T34.out; omega) (by have h0 := HB0.out; have q26 := T26.out; have q32 := T32.out; have q33 := T33.out; have q34 := T34.out; omega))
   have hb1 : wr.heap.size ≤ Z26.heap.size := by have h0 := HB0.out; have q26 := T26.out; have q32 := T32.out; have q33 := T33.out; have q34 := T34.out; omega
   have hb2 : wr.heap.size ≤ Z0.heap.size := by have h0 := HB0.out; have q26 := T26.out; have q32 := T32.out; have q33 := T33.out; have q34 := T34.out; omega
   have hne : Z0.heap.size ≠ Z26.heap.size := by have h0 := HB0.out; have q26 := T26.out; have q32 := T32.out; have q33 := T33.out; have q34 := T34.out; omega
   have HS1 := Lib.hid (below_filled HB.out hb1 (EntD.mk (.slice pD1 mD1 cD1) fmD1 (.slice pqD1 mqD1 cqD1) tsD1 sqD1 kdD1 (.slice pvD1 mvD1 cvD1) rwD1 qlD1 vlD1))
   have HS2 := Lib.hid (below_filled HS1.out hb2 (EntD.mk (.slice pD2 mD2 cD2) fmD2 (.slice pqD2 mqD2 cqD2) tsD2 sqD2 kdD2 (.slice pvD2 mvD2 cvD2) rwD2 qlD2 vlD2))
   have HE3 := Lib.hid (show EBox (filled Z34 (Z26.heap.size) (EntD.mk (.slice pD1 mD1 cD1) fmD1 (.slice pqD1 mqD1 cqD1) tsD1 sqD1 kdD1 (.slice pvD1 mvD1 cvD1) rwD1 qlD1 vlD1)) (Z0.heap.size) zeroD from ((filled_fb Z34 (Z26.heap.size) (EntD.mk (.slice pD1 mD1 cD1) fmD1 (.slice pqD1 mqD1 cqD1) tsD1 sqD1 kdD1 (.slice pvD1 mvD1 cvD1) rwD1 qlD1 vlD1)).block _ (Array.getElem?_eq_some_iff.1 HE2.out).1 hne).trans HE2.out)
   obtain ⟨z0, z1, z2, z3, z4, z5, z6⟩ := HE1.out.cells7
   obtain ⟨f0, f1, f2, f3, f4, f5, f6⟩ := HE1.out.fz7
   simp only [zeroD] at z0 z1 z2 z3 z4 z5 z6
   obtain ⟨y0, y1, y2, y3, y4, y5, y6⟩ := HE3.out.cells7
   obtain ⟨g0, g1, g2, g3, g4, g5, g6⟩ := HE3.out.fz7
   simp only [zeroD, filled] at y0 y1 y2 y3 y4 y5 y6 g0 g1 g2 g3 g4 g5 g6
   clear hHeld hb1 hb2 hne
   refine AnyE.one (i := 6) rfl (by kernel_rfl) (by kernel_rfl) (fun KK hK => ?_)
   go_simp
   refine hK.out _ _ ⟨fun _ => HS1.out, ?_⟩
   clear hK z0 z1 z2 z3 z4 z5 z6 f0 f1 f2 f3 f4 f5 f6
   try simp only [Act.put, List.setIfInBounds_toArray, List.set_cons_zero, List.set_cons_succ]
   refine AnyE.one (i := 7) rfl (by kernel_rfl) (by kernel_rfl) (fun KK hK => ?_)
   go_simp
   refine hK.out _ _ ⟨fun _ => HS2.out, ?_⟩
   clear hK
   refine AnyE.done (by kernel_rfl) (NoPanic.normal ?_) _
   exact hQ.out _ _ _ _ _ HPr.out
def pgiveOps : Array Oper := #[{ dst := some 16, op := Op.load 38 (Operand.tmp 6), type := 38, pos := "law.go:171", after := #[], guard := none }, { dst := some 17, op := Op.call { callee := Callee.value (Operand.func 6), args := #[Operand.tmp 16], argTypes := #[38] }, type := 38, pos := "law.go:171", after := #[{ on := 0, ground := Ground.data }], guard := none }, { dst := some 18, op := Op.load 38 (Operand.tmp 6), type := 38, pos := "law.go:171", after := #[], guard := none }, { dst := some 19, op := Op.call { callee := Callee.value (Operand.func 6), args := #[Operand.tmp 18], argTypes := #[38] }, type := 38, pos := "law.go:171", after := #[{ on := 2, ground := Ground.data }, { on := 1, ground := Ground.chain }], guard := none }, { dst := some 11, op := Op.alloc 38, type := 0, pos := "law.go:171", after := #[], guard := none }, { dst := some 12, op := Op.alloc 38, type := 0, pos := "law.go:171", after := #[], guard := none }, { dst := none, op := Op.store 38 (Operand.tmp 11) (Operand.tmp 17), type := 0, pos := "law.go:171", after := #[{ on := 4, ground := Ground.data }, { on := 1, ground := Ground.data }, { on := 3, ground := Ground.chain }, { on := 0, ground := Ground.phase }, { on := 1, ground := Ground.phase }, { on := 2, ground := Ground.textOnly Departure.lateStores }, { on := 3, ground := Ground.textOnly Departure.lateStoresUnsure }, { on := 4, ground := Ground.phase }, { on := 5, ground := Ground.phase }], guard := none }, { dst := none, op := Op.store 38 (Operand.tmp 12) (Operand.tmp 19), type := 0, pos := "law.go:171", after := #[{ on := 5, ground := Ground.data }, { on := 3, ground := Ground.data }, { on := 6, ground := Ground.chain }, { on := 0, ground := Ground.phase }, { on := 1, ground := Ground.phase }, { on := 2, ground := Ground.phase }, { on := 3, ground := Ground.phase }, { on := 4, ground := Ground.phase }, { on := 5, ground := Ground.phase }, { on := 6, ground := Ground.phase }], guard := none }]
set_option maxRecDepth 100000 in
set_option maxHeartbeats 16000000 in
theorem pgive_region {wr : World} {x : EntD} {be : Nat} {Q : Exit → Act → World → Prop} {s0 s1 s2 s3 s4 s5 s7 s8 s9 s10 s11 s12 s13 s14 s15 s16 s17 s18 s19 s20 s21 s22 s23 s24 s25 s26 s27 s28 s29 s30 s31 s32 s33 s34 s35 s36 s37 s38 s39 s40 s41 s42 s43 s44 s45 s46 s47 s48 s49 s50 s51 s52 s53 s54 s55 s56 s57 s58 s59 s60 s61 s62 s63 s64 s65 s66 s67 s68 s69 s70 s71 s72 s73 s74 s75 s76 : Value} (hok : EntD.Ok wr x) (hDc : wr.cell? ⟨be, 0, none⟩ = some (x.vr) ∧ wr.cell? ⟨be, 1, none⟩ = some (.int .i64 x.fam) ∧ wr.cell? ⟨be, 2, none⟩ = some (x.vq) ∧ wr.cell? ⟨be, 3, none⟩ = some (.int .i64 x.ts) ∧ wr.cell? ⟨be, 4, none⟩ = some (.int .i64 x.seq) ∧ wr.cell? ⟨be, 5, none⟩ = some (.int .i64 x.kind) ∧ wr.cell? ⟨be, 6, none⟩ = some (x.vv))
  (hQ : Hid (∀ (D1 D2 : EntD) (b1 b2 : Nat) (Z : World), Pair wr Z x D1 D2 b1 b2 → Q .normal (⟨#[s0, s1, s2, s3, s4, s5, .pointer (some ⟨be, 0, none⟩), s7, s8, s9, s10, .pointer (some ⟨b1, 0, none⟩), .pointer (some ⟨b2, 0, none⟩), s13, s14, s15, .agg #[x.vr, .int .i64 x.fam, x.vq, .int .i64 x.ts, .int .i64 x.seq, .int .i64 x.kind, x.vv], .agg #[D1.vr, .int .i64 D1.fam, D1.vq, .int .i64 D1.ts, .int .i64 D1.seq, .int .i64 D1.kind, D1.vv], .agg #[x.vr, .int .i64 x.fam, x.vq, .int .i64 x.ts, .int .i64 x.seq, .int .i64 x.kind, x.vv], .agg #[D2.vr, .int .i64 D2.fam, D2.vq, .int .i64 D2.ts, .int .i64 D2.seq, .int .i64 D2.kind, D2.vv], s20, s21, s22, s23, s24, s25, s26, s27, s28, s29, s30, s31, s32, s33, s34, s35, s36, s37, s38, s39, s40, s41, s42, s43, s44, s45, s46, s47, s48, s49, s50, s51, s52, s53, s54, s55, s56, s57, s58, s59, s60, s61, s62, s63, s64, s65, s66, s67, s68, s69, s70, s71, s72, s73, s74, s75, s76], []⟩ : Act) Z)) : Code.wp Tryz.prog (Code.region 1 pgiveOps true) Q (⟨#[s0, s1, s2, s3, s4, s5, .pointer (some ⟨be, 0, none⟩), s7, s8, s9, s10, s11, s12, s13, s14, s15, s16, s17, s18, s19, s20, s21, s22, s23, s24, s25, s26, s27, s28, s29, s30, s31, s32, s33, s34, s35, s36, s37, s38, s39, s40, s41, s42, s43, s44, s45, s46, s47, s48, s49, s50, s51, s52, s53, s54, s55, s56, s57, s58, s59, s60, s61, s62, s63, s64, s65, s66, s67, s68, s69, s70, s71, s72, s73, s74, s75, s76], []⟩ : Act) wr := by
 have HDc := Lib.hid hDc
 have HEn : Hid (∀ Z, Below wr.heap.size wr Z → Calls Tryz.prog 6 #[.agg #[x.vr, .int .i64 x.fam, x.vq, .int .i64 x.ts, .int .i64 x.seq, .int .i64 x.kind, x.vv]] Z fun r w' => ∃ D : EntD, r = .returned (.agg D.cells) ∧ EntD.Same D x.cut ∧ LaidE w' Z.heap.size D ∧ Below Z.heap.size Z w' ∧ ApE D) := fun Z bz => entry8_any (hok.later bz)
 clear hok hDc
 unfold pgiveOps
 have BD : Below wr.heap.size wr wr.drew := (Below.refl _ _).drew
 refine wp_region_noPanic ?_
 refine wp_region_anyE (S := fun wx => Below wr.heap.size wr wx) (E := fun _ => true) (by kernel_rfl) ?_
 have hHeld : Below wr.heap.size wr wr.drew := BD
 have HB0 := Lib.hid BD.size
 have HB := Lib.hid BD
 obtain ⟨Z0, hZ0⟩ : ∃ z, z = wr.drew := ⟨_, rfl⟩
 rw [← hZ0] at HB HB0 hHeld ⊢
 clear hZ0 BD
 refine AnyE.take (i := 0) (.agg #[x.vr, .int .i64 x.fam, x.vq, .int .i64 x.ts, .int .i64 x.seq, .int .i64 x.kind, x.vv]) rfl (by kernel_rfl) (by kernel_rfl) (by kernel_rfl) (by kernel_rfl) (fun _ _ _ h => h) (.inl ⟨by kernel_rfl, fun wy hy => by (have c0 := (hy.cell (p := ⟨be, 0, none⟩) (World.block_lt_of_cell? _ _ HDc.out.1)).trans HDc.out.1; have c1 := (hy.cell (p := ⟨be, 1, none⟩) (World.block_lt_of_cell? _ _ HDc.out.2.1)).trans HDc.out.2.1; have c2 := (hy.cell (p := ⟨be, 2, none⟩) (World.block_lt_of_cell? _ _ HDc.out.2.2.1)).trans HDc.out.2.2.1; have c3 := (hy.cell (p := ⟨be, 3, none⟩) (World.block_lt_of_cell? _ _ HDc.out.2.2.2.1)).trans HDc.out.2.2.2.1; have c4 := (hy.cell (p := ⟨be, 4, none⟩) (World.block_lt_of_cell? _ _ HDc.out.2.2.2.2.1)).trans HDc.out.2.2.2.2.1; have c5 := (hy.cell (p := ⟨be, 5, none⟩) (World.block_lt_of_cell? _ _ HDc.out.2.2.2.2.2.1)).trans HDc.out.2.2.2.2.2.1; have c6 := (hy.cell (p := ⟨be, 6, none⟩) (World.block_lt_of_cell? _ _ HDc.out.2.2.2.2.2.2)).trans HDc.out.2.2.2.2.2.2; go_simp; done)⟩) hHeld ?_
 try simp only [Act.put, List.setIfInBounds_toArray, List.set_cons_zero, List.set_cons_succ]
 refine AnyE.take (i := 2) (.agg #[x.vr, .int .i64 x.fam, x.vq, .int .i64 x.ts, .int .i64 x.seq, .int .i64 x.kind, x.vv]) rfl (by kernel_rfl) (by kernel_rfl) (by kernel_rfl) (by kernel_rfl) (fun _ _ _ h => h) (.inl ⟨by kernel_rfl, fun wy hy => by (have c0 := (hy.cell (p := ⟨be, 0, none⟩) (World.block_lt_of_cell? _ _ HDc.out.1)).trans HDc.out.1; have c1 := (hy.cell (p := ⟨be, 1, none⟩) (World.block_lt_of_cell? _ _ HDc.out.2.1)).trans HDc.out.2.1; have c2 := (hy.cell (p := ⟨be, 2, none⟩) (World.block_lt_of_cell? _ _ HDc.out.2.2.1)).trans HDc.out.2.2.1; have c3 := (hy.cell (p := ⟨be, 3, none⟩) (World.block_lt_of_cell? _ _ HDc.out.2.2.2.1)).trans HDc.out.2.2.2.1; have c4 := (hy.cell (p := ⟨be, 4, none⟩) (World.block_lt_of_cell? _ _ HDc.out.2.2.2.2.1)).trans HDc.out.2.2.2.2.1; have c5 := (hy.cell (p := ⟨be, 5, none⟩) (World.block_lt_of_cell? _ _ HDc.out.2.2.2.2.2.1)).trans HDc.out.2.2.2.2.2.1; have c6 := (hy.cell (p := ⟨be, 6, none⟩) (World.block_lt_of_cell? _ _ HDc.out.2.2.2.2.2.2)).trans HDc.out.2.2.2.2.2.2; go_simp; done)⟩) hHeld ?_
 try simp only [Act.put, List.setIfInBounds_toArray, List.set_cons_zero, List.set_cons_succ]
 refine AnyE.threeF (i := 1) (j := 4) (m := 5) rfl rfl rfl (by kernel_rfl) (by kernel_rfl) (by kernel_rfl) (by kernel_rfl) (fun KK hK => ?_) (fun KK hK => ?_) (fun KK hK => ?_)
 ·go_simp
  go_at_call 6
  refine (HEn.out _ HB.out).mono ?_
  rintro e9 Z1 ⟨⟨vr, fmD1, vq, tsD1, sqD1, kdD1, vv, rwD1, qlD1, vlD1⟩, rfl, hs9, hl9, b9, ha9⟩
  obtain ⟨pD1, mD1, cD1, e1⟩ := hl9.1.form
  obtain ⟨pqD1, mqD1, cqD1, e2⟩ := hl9.2.1.form
  obtain ⟨pvD1, mvD1, cvD1, e3⟩ := hl9.2.2.form
  simp only at e1 e2 e3
  subst e1 e2 e3
  have T1 : Hid (Z0.heap.size ≤ Z1.heap.size) := b9.size
  have Hnew := Lib.hid (Md.new hs9 hl9 ha9)
  have HB := Lib.hid (HB.out.trans (b9.mono HB.out.size))
  have HM1 := Hnew
  clear Hnew hs9 hl9 ha9 b9
  simp only [EntD.cells]
  go_wp2_with fail
  refine hK.out _ _ ⟨fun _ => HB.out, ?_⟩
  have hHeld := HB.out
  clear hK
  try simp only [Act.put, List.setIfInBounds_toArray, List.set_cons_zero, List.set_cons_succ]
  refine AnyE.threeF (i := 3) (j := 4) (m := 5) rfl rfl rfl (by kernel_rfl) (by kernel_rfl) (by kernel_rfl) (by kernel_rfl) (fun KK hK => ?_) (fun KK hK => ?_) (fun KK hK => ?_)
  ·go_simp
   go_at_call 6
   refine (HEn.out _ HB.out).mono ?_
   rintro e9 Z2 ⟨⟨vr, fmD2, vq, tsD2, sqD2, kdD2, vv, rwD2, qlD2, vlD2⟩, rfl, hs9, hl9, b9, ha9⟩
   obtain ⟨pD2, mD2, cD2, e1⟩ := hl9.1.form
   obtain ⟨pqD2, mqD2, cqD2, e2⟩ := hl9.2.1.form
   obtain ⟨pvD2, mvD2, cvD2, e3⟩ := hl9.2.2.form
   simp only at e1 e2 e3
   subst e1 e2 e3
   have T2 : Hid (Z1.heap.size ≤ Z2.heap.size) := b9.size
   have Hnew := Lib.hid (Md.new hs9 hl9 ha9)
   have HB := Lib.hid (HB.out.trans (b9.mono HB.out.size))
   have HM1 := Lib.hid (HM1.out.later b9)
   have HM2 := Hnew
   clear Hnew hs9 hl9 ha9 b9
   simp only [EntD.cells]
   go_wp2_with fail
   refine hK.out _ _ ⟨fun _ => HB.out, ?_⟩
   have hHeld := HB.out
   clear hK
   try simp only [Act.put, List.setIfInBounds_toArray, List.set_cons_zero, List.set_cons_succ]
   refine AnyE.twoF (i := 4) (j := 5) rfl rfl (by kernel_rfl) (by kernel_rfl) (by kernel_rfl) (fun KK hK => ?_) (fun KK hK => ?_)
   ·go_simp
    have bA := (Below.refl Z2.heap.size Z2).alloc (Nat.le_refl _) (.cells #[.slice none 0 0, .int .i64 0, .slice none 0 0, .int .i64 0, .int .i64 0, .int .i64 0, .slice none 0 0] 38)
    have eA : EBox (Z2.alloc (.cells #[.slice none 0 0, .int .i64 0, .slice none 0 0, .int .i64 0, .int .i64 0, .int .i64 0, .slice none 0 0] 38)) Z2.heap.size zeroD := EBox.new Z2 zeroD
    have tA : (Z2.alloc (.cells #[.slice none 0 0, .int .i64 0, .slice none 0 0, .int .i64 0, .int .i64 0, .int .i64 0, .slice none 0 0] 38)).heap.size = Z2.heap.size + 1 := by simp
    obtain ⟨Z3, hZ⟩ : ∃ z, z = Z2.alloc (.cells #[.slice none 0 0, .int .i64 0, .slice none 0 0, .int .i64 0, .int .i64 0, .int .i64 0, .slice none 0 0] 38) := ⟨_, rfl⟩
    rw [← hZ] at bA eA tA ⊢
    clear hZ
    have T3 := Lib.hid tA
    have HB := Lib.hid (HB.out.trans (bA.mono HB.out.size))
    have HM1 := Lib.hid (HM1.out.later bA)
    have HM2 := Lib.hid (HM2.out.later bA)
    have HE1 := Lib.hid eA
    clear bA eA tA
    refine hK.out _ _ ⟨fun _ => HB.out, ?_⟩
    have hHeld := HB.out
    clear hK
    try simp only [Act.put, List.setIfInBounds_toArray, List.set_cons_zero, List.set_cons_succ]
    refine AnyE.one (i := 5) rfl (by kernel_rfl) (by kernel_rfl) (fun KK hK => ?_)
    go_simp
    have bA := (Below.refl Z3.heap.size Z3).alloc (Nat.le_refl _) (.cells #[.slice none 0 0, .int .i64 0, .slice none 0 0, .int .i64 0, .int .i64 0, .int .i64 0, .slice none 0 0] 38)
    have eA : EBox (Z3.alloc (.cells #[.slice none 0 0, .int .i64 0, .slice none 0 0, .int .i64 0, .int .i64 0, .int .i64 0, .slice none 0 0] 38)) Z3.heap.size zeroD := EBox.new Z3 zeroD
    have tA : (Z3.alloc (.cells #[.slice none 0 0, .int .i64 0, .slice none 0 0, .int .i64 0, .int .i64 0, .int .i64 0, .slice none 0 0] 38)).heap.size = Z3.heap.size + 1 := by simp
    obtain ⟨Z4, hZ⟩ : ∃ z, z = Z3.alloc (.cells #[.slice none 0 0, .int .i64 0, .slice none 0 0, .int .i64 0, .int .i64 0, .int .i64 0, .slice none 0 0] 38) := ⟨_, rfl⟩
    rw [← hZ] at bA eA tA ⊢
    clear hZ
    have T4 := Lib.hid tA
    have HB := Lib.hid (HB.out.trans (bA.mono HB.out.size))
    have HM1 := Lib.hid (HM1.out.later bA)
    have HM2 := Lib.hid (HM2.out.later bA)
    have HE1 := Lib.hid (HE1.out.later bA)
    have HE2 := Lib.hid eA
    clear bA eA tA
    refine hK.out _ _ ⟨fun _ => HB.out, ?_⟩
    have hHeld := HB.out
    clear hK
    try simp only [Act.put, List.setIfInBounds_toArray, List.set_cons_zero, List.set_cons_succ]
    have HPr := Lib.hid (pair_of HB.out HM1.out HM2.out HE1.out HE2.out (by have h0 := HB0.out; have q1 := T1.out; have q2 := T2.out; have q3 := T3.out; have q4 := T4.out; omega) (by have h0 := HB0.out; have q1 := T1.out; have q2 := T2.out; have q3 := T3.out; have q4 := T4.out; omega) (by have h0 := HB0.out; have q1 := T1.out; have q2 := T2.out; have q3 := T3.out; have q4 := T4.out; omega) (by have h0 := HB0.out; have q1 := T1.out; have q2 := T2.out; have q3 := T3.out; have q4 := T4.out; omega) (by have h0 := HB0.out; have q1 := T1.out; have q2 := T2.out; have q3 := T3.out; have q4 := T4.out; omega))
    have hb1 : wr.heap.size ≤ Z2.heap.size := by have h0 := HB0.out; have q1 := T1.out; have q2 := T2.out; have q3 := T3.out; have q4 := T4.out; omega
    have hb2 : wr.heap.size ≤ Z3.heap.size := by have h0 := HB0.out; have q1 := T1.out; have q2 := T2.out; have q3 := T3.out; have q4 := T4.out; omega
    have hne : Z3.heap.size ≠ Z2.heap.size := by have h0 := HB0.out; have q1 := T1.out; have q2 := T2.out; have q3 := T3.out; have q4 := T4.out; omega
    have HS1 := Lib.hid (below_filled HB.out hb1 (EntD.mk (.slice pD1 mD1 cD1) fmD1 (.slice pqD1 mqD1 cqD1) tsD1 sqD1 kdD1 (.slice pvD1 mvD1 cvD1) rwD1 qlD1 vlD1))
    have HS2 := Lib.hid (below_filled HS1.out hb2 (EntD.mk (.slice pD2 mD2 cD2) fmD2 (.slice pqD2 mqD2 cqD2) tsD2 sqD2 kdD2 (.slice pvD2 mvD2 cvD2) rwD2 qlD2 vlD2))
    have HE3 := Lib.hid (show EBox (filled Z4 (Z2.heap.size) (EntD.mk (.slice pD1 mD1 cD1) fmD1 (.slice pqD1 mqD1 cqD1) tsD1 sqD1 kdD1 (.slice pvD1 mvD1 cvD1) rwD1 qlD1 vlD1)) (Z3.heap.size) zeroD from ((filled_fb Z4 (Z2.heap.size) (EntD.mk (.slice pD1 mD1 cD1) fmD1 (.slice pqD1 mqD1 cqD1) tsD1 sqD1 kdD1 (.slice pvD1 mvD1 cvD1) rwD1 qlD1 vlD1)).block _ (Array.getElem?_eq_some_iff.1 HE2.out).1 hne).trans HE2.out)
    obtain ⟨z0, z1, z2, z3, z4, z5, z6⟩ := HE1.out.cells7
    obtain ⟨f0, f1, f2, f3, f4, f5, f6⟩ := HE1.out.fz7
    simp only [zeroD] at z0 z1 z2 z3 z4 z5 z6
    obtain ⟨y0, y1, y2, y3, y4, y5, y6⟩ := HE3.out.cells7
    obtain ⟨g0, g1, g2, g3, g4, g5, g6⟩ := HE3.out.fz7
    simp only [zeroD, filled] at y0 y1 y2 y3 y4 y5 y6 g0 g1 g2 g3 g4 g5 g6
    clear hHeld hb1 hb2 hne
    refine AnyE.one (i := 6) rfl (by kernel_rfl) (by kernel_rfl) (fun KK hK => ?_)
    go_simp
    refine hK.out _ _ ⟨fun _ => HS1.out, ?_⟩
    clear hK z0 z1 z2 z3 z4 z5 z6 f0 f1 f2 f3 f4 f5 f6
    try simp only [Act.put, List.setIfInBounds_toArray, List.set_cons_zero, List.set_cons_succ]
    refine AnyE.one (i := 7) rfl (by kernel_rfl) (by kernel_rfl) (fun KK hK => ?_)
    go_simp
    refine hK.out _ _ ⟨fun _ => HS2.out, ?_⟩
    clear hK
    refine AnyE.done (by kernel_rfl) (NoPanic.normal ?_) _
    exact hQ.out _ _ _ _ _ HPr.out
   ·go_simp
    have bA := (Below.refl Z2.heap.size Z2).alloc (Nat.le_refl _) (.cells #[.slice none 0 0, .int .i64 0, .slice none 0 0, .int .i64 0, .int .i64 0, .int .i64 0, .slice none 0 0] 38)
    have eA : EBox (Z2.alloc (.cells #[.slice none 0 0, .int .i64 0, .slice none 0 0, .int .i64 0, .int .i64 0, .int .i64 0, .slice none 0 0] 38)) Z2.heap.size zeroD := EBox.new Z2 zeroD
    have tA : (Z2.alloc (.cells #[.slice none 0 0, .int .i64 0, .slice none 0 0, .int .i64 0, .int .i64 0, .int .i64 0, .slice none 0 0] 38)).heap.size = Z2.heap.size + 1 := by simp
    obtain ⟨Z5, hZ⟩ : ∃ z, z = Z2.alloc (.cells #[.slice none 0 0, .int .i64 0, .slice none 0 0, .int .i64 0, .int .i64 0, .int .i64 0, .slice none 0 0] 38) := ⟨_, rfl⟩
    rw [← hZ] at bA eA tA ⊢
    clear hZ
    have T5 := Lib.hid tA
    have HB := Lib.hid (HB.out.trans (bA.mono HB.out.size))
    have HM1 := Lib.hid (HM1.out.later bA)
    have HM2 := Lib.hid (HM2.out.later bA)
    have HE2 := Lib.hid eA
    clear bA eA tA
    refine hK.out _ _ ⟨fun _ => HB.out, ?_⟩
    have hHeld := HB.out
    clear hK
    try simp only [Act.put, List.setIfInBounds_toArray, List.set_cons_zero, List.set_cons_succ]
    refine AnyE.one (i := 4) rfl (by kernel_rfl) (by kernel_rfl) (fun KK hK => ?_)
    go_simp
    have bA := (Below.refl Z5.heap.size Z5).alloc (Nat.le_refl _) (.cells #[.slice none 0 0, .int .i64 0, .slice none 0 0, .int .i64 0, .int .i64 0, .int .i64 0, .slice none 0 0] 38)
    have eA : EBox (Z5.alloc (.cells #[.slice none 0 0, .int .i64 0, .slice none 0 0, .int .i64 0, .int .i64 0, .int .i64 0, .slice none 0 0] 38)) Z5.heap.size zeroD := EBox.new Z5 zeroD
    have tA : (Z5.alloc (.cells #[.slice none 0 0, .int .i64 0, .slice none 0 0, .int .i64 0, .int .i64 0, .int .i64 0, .slice none 0 0] 38)).heap.size = Z5.heap.size + 1 := by simp
    obtain ⟨Z6, hZ⟩ : ∃ z, z = Z5.alloc (.cells #[.slice none 0 0, .int .i64 0, .slice none 0 0, .int .i64 0, .int .i64 0, .int .i64 0, .slice none 0 0] 38) := ⟨_, rfl⟩
    rw [← hZ] at bA eA tA ⊢
    clear hZ
    have T6 := Lib.hid tA
    have HB := Lib.hid (HB.out.trans (bA.mono HB.out.size))
    have HM1 := Lib.hid (HM1.out.later bA)
    have HM2 := Lib.hid (HM2.out.later bA)
    have HE2 := Lib.hid (HE2.out.later bA)
    have HE1 := Lib.hid eA
    clear bA eA tA
    refine hK.out _ _ ⟨fun _ => HB.out, ?_⟩
    have hHeld := HB.out
    clear hK
    try simp only [Act.put, List.setIfInBounds_toArray, List.set_cons_zero, List.set_cons_succ]
    have HPr := Lib.hid (pair_of HB.out HM1.out HM2.out HE1.out HE2.out (by have h0 := HB0.out; have q1 := T1.out; have q2 := T2.out; have q5 := T5.out; have q6 := T6.out; omega) (by have h0 := HB0.out; have q1 := T1.out; have q2 := T2.out; have q5 := T5.out; have q6 := T6.out; omega) (by have h0 := HB0.out; have q1 := T1.out; have q2 := T2.out; have q5 := T5.out; have q6 := T6.out; omega) (by have h0 := HB0.out; have q1 := T1.out; have q2 := T2.out; have q5 := T5.out; have q6 := T6.out; omega) (by have h0 := HB0.out; have q1 := T1.out; have q2 := T2.out; have q5 := T5.out; have q6 := T6.out; omega))
    have hb1 : wr.heap.size ≤ Z5.heap.size := by have h0 := HB0.out; have q1 := T1.out; have q2 := T2.out; have q5 := T5.out; have q6 := T6.out; omega
    have hb2 : wr.heap.size ≤ Z2.heap.size := by have h0 := HB0.out; have q1 := T1.out; have q2 := T2.out; have q5 := T5.out; have q6 := T6.out; omega
    have hne : Z2.heap.size ≠ Z5.heap.size := by have h0 := HB0.out; have q1 := T1.out; have q2 := T2.out; have q5 := T5.out; have q6 := T6.out; omega
    have HS1 := Lib.hid (below_filled HB.out hb1 (EntD.mk (.slice pD1 mD1 cD1) fmD1 (.slice pqD1 mqD1 cqD1) tsD1 sqD1 kdD1 (.slice pvD1 mvD1 cvD1) rwD1 qlD1 vlD1))
    have HS2 := Lib.hid (below_filled HS1.out hb2 (EntD.mk (.slice pD2 mD2 cD2) fmD2 (.slice pqD2 mqD2 cqD2) tsD2 sqD2 kdD2 (.slice pvD2 mvD2 cvD2) rwD2 qlD2 vlD2))
    have HE3 := Lib.hid (show EBox (filled Z6 (Z5.heap.size) (EntD.mk (.slice pD1 mD1 cD1) fmD1 (.slice pqD1 mqD1 cqD1) tsD1 sqD1 kdD1 (.slice pvD1 mvD1 cvD1) rwD1 qlD1 vlD1)) (Z2.heap.size) zeroD from ((filled_fb Z6 (Z5.heap.size) (EntD.mk (.slice pD1 mD1 cD1) fmD1 (.slice pqD1 mqD1 cqD1) tsD1 sqD1 kdD1 (.slice pvD1 mvD1 cvD1) rwD1 qlD1 vlD1)).block _ (Array.getElem?_eq_some_iff.1 HE2.out).1 hne).trans HE2.out)
    obtain ⟨z0, z1, z2, z3, z4, z5, z6⟩ := HE1.out.cells7
    obtain ⟨f0, f1, f2, f3, f4, f5, f6⟩ := HE1.out.fz7
    simp only [zeroD] at z0 z1 z2 z3 z4 z5 z6
    obtain ⟨y0, y1, y2, y3, y4, y5, y6⟩ := HE3.out.cells7
    obtain ⟨g0, g1, g2, g3, g4, g5, g6⟩ := HE3.out.fz7
    simp only [zeroD, filled] at y0 y1 y2 y3 y4 y5 y6 g0 g1 g2 g3 g4 g5 g6
    clear hHeld hb1 hb2 hne
    refine AnyE.one (i := 6) rfl (by kernel_rfl) (by kernel_rfl) (fun KK hK => ?_)
    go_simp
    refine hK.out _ _ ⟨fun _ => HS1.out, ?_⟩
    clear hK z0 z1 z2 z3 z4 z5 z6 f0 f1 f2 f3 f4 f5 f6
    try simp only [Act.put, List.setIfInBounds_toArray, List.set_cons_zero, List.set_cons_succ]
    refine AnyE.one (i := 7) rfl (by kernel_rfl) (by kernel_rfl) (fun KK hK => ?_)
    go_simp
    refine hK.out _ _ ⟨fun _ => HS2.out, ?_⟩
    clear hK
    refine AnyE.done (by kernel_rfl) (NoPanic.normal ?_) _
    exact hQ.out _ _ _ _ _ HPr.out
  ·go_simp
   have bA := (Below.refl Z1.heap.size Z1).alloc (Nat.le_refl _) (.cells #[.slice none 0 0, .int .i64 0, .slice none 0 0, .int .i64 0, .int .i64 0, .int .i64 0, .slice none 0 0] 38)
   have eA : EBox (Z1.alloc (.cells #[.slice none 0 0, .int .i64 0, .slice none 0 0, .int .i64 0, .int .i64 0, .int .i64 0, .slice none 0 0] 38)) Z1.heap.size zeroD := EBox.new Z1 zeroD
   have tA : (Z1.alloc (.cells #[.slice none 0 0, .int .i64 0, .slice none 0 0, .int .i64 0, .int .i64 0, .int .i64 0, .slice none 0 0] 38)).heap.size = Z1.heap.size + 1 := by simp
   obtain ⟨Z7, hZ⟩ : ∃ z, z = Z1.alloc (.cells #[.slice none 0 0, .int .i64 0, .slice none 0 0, .int .i64 0, .int .i64 0, .int .i64 0, .slice none 0 0] 38) := ⟨_, rfl⟩
   rw [← hZ] at bA eA tA ⊢
   clear hZ
   have T7 := Lib.hid tA
   have HB := Lib.hid (HB.out.trans (bA.mono HB.out.size))
   have HM1 := Lib.hid (HM1.out.later bA)
   have HE1 := Lib.hid eA
   clear bA eA tA
   refine hK.out _ _ ⟨fun _ => HB.out, ?_⟩
   have hHeld := HB.out
   clear hK
   try simp only [Act.put, List.setIfInBounds_toArray, List.set_cons_zero, List.set_cons_succ]
   refine AnyE.twoF (i := 3) (j := 5) rfl rfl (by kernel_rfl) (by kernel_rfl) (by kernel_rfl) (fun KK hK => ?_) (fun KK hK => ?_)
   ·go_simp
    go_at_call 6
    refine (HEn.out _ HB.out).mono ?_
    rintro e9 Z8 ⟨⟨vr, fmD2, vq, tsD2, sqD2, kdD2, vv, rwD2, qlD2, vlD2⟩, rfl, hs9, hl9, b9, ha9⟩
    obtain ⟨pD2, mD2, cD2, e1⟩ := hl9.1.form
    obtain ⟨pqD2, mqD2, cqD2, e2⟩ := hl9.2.1.form
    obtain ⟨pvD2, mvD2, cvD2, e3⟩ := hl9.2.2.form
    simp only at e1 e2 e3
    subst e1 e2 e3
    have T8 : Hid (Z7.heap.size ≤ Z8.heap.size) := b9.size
    have Hnew := Lib.hid (Md.new hs9 hl9 ha9)
    have HB := Lib.hid (HB.out.trans (b9.mono HB.out.size))
    have HM1 := Lib.hid (HM1.out.later b9)
    have HE1 := Lib.hid (HE1.out.later b9)
    have HM2 := Hnew
    clear Hnew hs9 hl9 ha9 b9
    simp only [EntD.cells]
    go_wp2_with fail
    refine hK.out _ _ ⟨fun _ => HB.out, ?_⟩
    have hHeld := HB.out
    clear hK
    try simp only [Act.put, List.setIfInBounds_toArray, List.set_cons_zero, List.set_cons_succ]
    refine AnyE.one (i := 5) rfl (by kernel_rfl) (by kernel_rfl) (fun KK hK => ?_)
    go_simp
    have bA := (Below.refl Z8.heap.size Z8).alloc (Nat.le_refl _) (.cells #[.slice none 0 0, .int .i64 0, .slice none 0 0, .int .i64 0, .int .i64 0, .int .i64 0, .slice none 0 0] 38)
    have eA : EBox (Z8.alloc (.cells #[.slice none 0 0, .int .i64 0, .slice none 0 0, .int .i64 0, .int .i64 0, .int .i64 0, .slice none 0 0] 38)) Z8.heap.size zeroD := EBox.new Z8 zeroD
    have tA : (Z8.alloc (.cells #[.slice none 0 0, .int .i64 0, .slice none 0 0, .int .i64 0, .int .i64 0, .int .i64 0, .slice none 0 0] 38)).heap.size = Z8.heap.size + 1 := by simp
    obtain ⟨Z9, hZ⟩ : ∃ z, z = Z8.alloc (.cells #[.slice none 0 0, .int .i64 0, .slice none 0 0, .int .i64 0, .int .i64 0, .int .i64 0, .slice none 0 0] 38) := ⟨_, rfl⟩
    rw [← hZ] at bA eA tA ⊢
    clear hZ
    have T9 := Lib.hid tA
    have HB := Lib.hid (HB.out.trans (bA.mono HB.out.size))
    have HM1 := Lib.hid (HM1.out.later bA)
    have HM2 := Lib.hid (HM2.out.later bA)
    have HE1 := Lib.hid (HE1.out.later bA)
    have HE2 := Lib.hid eA
    clear bA eA tA
    refine hK.out _ _ ⟨fun _ => HB.out, ?_⟩
    have hHeld := HB.out
    clear hK
    try simp only [Act.put, List.setIfInBounds_toArray, List.set_cons_zero, List.set_cons_succ]
    have HPr := Lib.hid (pair_of HB.out HM1.out HM2.out HE1.out HE2.out (by have h0 := HB0.out; have q1 := T1.out; have q7 := T7.out; have q8 := T8.out; have q9 := T9.out; omega) (by have h0 := HB0.out; have q1 := T1.out; have q7 := T7.out; have q8 := T8.out; have q9 := T9.out; omega) (by have h0 := HB0.out; have q1 := T1.out; have q7 := T7.out; have q8 := T8.out; have q9 := T9.out; omega) (by have h0 := HB0.out; have q1 := T1.out; have q7 := T7.out; have q8 := T8.out; have q9 := T9.out; omega) (by have h0 := HB0.out; have q1 := T1.out; have q7 := T7.out; have q8 := T8.out; have q9 := T9.out; omega))
    have hb1 : wr.heap.size ≤ Z1.heap.size := by have h0 := HB0.out; have q1 := T1.out; have q7 := T7.out; have q8 := T8.out; have q9 := T9.out; omega
    have hb2 : wr.heap.size ≤ Z8.heap.size := by have h0 := HB0.out; have q1 := T1.out; have q7 := T7.out; have q8 := T8.out; have q9 := T9.out; omega
    have hne : Z8.heap.size ≠ Z1.heap.size := by have h0 := HB0.out; have q1 := T1.out; have q7 := T7.out; have q8 := T8.out; have q9 := T9.out; omega
    have HS1 := Lib.hid (below_filled HB.out hb1 (EntD.mk (.slice pD1 mD1 cD1) fmD1 (.slice pqD1 mqD1 cqD1) tsD1 sqD1 kdD1 (.slice pvD1 mvD1 cvD1) rwD1 qlD1 vlD1))
    have HS2 := Lib.hid (below_filled HS1.out hb2 (EntD.mk (.slice pD2 mD2 cD2) fmD2 (.slice pqD2 mqD2 cqD2) tsD2 sqD2 kdD2 (.slice pvD2 mvD2 cvD2) rwD2 qlD2 vlD2))
    have HE3 := Lib.hid (show EBox (filled Z9 (Z1.heap.size) (EntD.mk (.slice pD1 mD1 cD1) fmD1 (.slice pqD1 mqD1 cqD1) tsD1 sqD1 kdD1 (.slice pvD1 mvD1 cvD1) rwD1 qlD1 vlD1)) (Z8.heap.size) zeroD from ((filled_fb Z9 (Z1.heap.size) (EntD.mk (.slice pD1 mD1 cD1) fmD1 (.slice pqD1 mqD1 cqD1) tsD1 sqD1 kdD1 (.slice pvD1 mvD1 cvD1) rwD1 qlD1 vlD1)).block _ (Array.getElem?_eq_some_iff.1 HE2.out).1 hne).trans HE2.out)
    obtain ⟨z0, z1, z2, z3, z4, z5, z6⟩ := HE1.out.cells7
    obtain ⟨f0, f1, f2, f3, f4, f5, f6⟩ := HE1.out.fz7
    simp only [zeroD] at z0 z1 z2 z3 z4 z5 z6
    obtain ⟨y0, y1, y2, y3, y4, y5, y6⟩ := HE3.out.cells7
    obtain ⟨g0, g1, g2, g3, g4, g5, g6⟩ := HE3.out.fz7
    simp only [zeroD, filled] at y0 y1 y2 y3 y4 y5 y6 g0 g1 g2 g3 g4 g5 g6
    clear hHeld hb1 hb2 hne
    refine AnyE.one (i := 6) rfl (by kernel_rfl) (by kernel_rfl) (fun KK hK => ?_)
    go_simp
    refine hK.out _ _ ⟨fun _ => HS1.out, ?_⟩
    clear hK z0 z1 z2 z3 z4 z5 z6 f0 f1 f2 f3 f4 f5 f6
    try simp only [Act.put, List.setIfInBounds_toArray, List.set_cons_zero, List.set_cons_succ]
    refine AnyE.one (i := 7) rfl (by kernel_rfl) (by kernel_rfl) (fun KK hK => ?_)
    go_simp
    refine hK.out _ _ ⟨fun _ => HS2.out, ?_⟩
    clear hK
    refine AnyE.done (by kernel_rfl) (NoPanic.normal ?_) _
    exact hQ.out _ _ _ _ _ HPr.out
   ·go_simp
    have bA := (Below.refl Z7.heap.size Z7).alloc (Nat.le_refl _) (.cells #[.slice none 0 0, .int .i64 0, .slice none 0 0, .int .i64 0, .int .i64 0, .int .i64 0, .slice none 0 0] 38)
    have eA : EBox (Z7.alloc (.cells #[.slice none 0 0, .int .i64 0, .slice none 0 0, .int .i64 0, .int .i64 0, .int .i64 0, .slice none 0 0] 38)) Z7.heap.size zeroD := EBox.new Z7 zeroD
    have tA : (Z7.alloc (.cells #[.slice none 0 0, .int .i64 0, .slice none 0 0, .int .i64 0, .int .i64 0, .int .i64 0, .slice none 0 0] 38)).heap.size = Z7.heap.size + 1 := by simp
    obtain ⟨Z10, hZ⟩ : ∃ z, z = Z7.alloc (.cells #[.slice none 0 0, .int .i64 0, .slice none 0 0, .int .i64 0, .int .i64 0, .int .i64 0, .slice none 0 0] 38) := ⟨_, rfl⟩
    rw [← hZ] at bA eA tA ⊢
    clear hZ
    have T10 := Lib.hid tA
    have HB := Lib.hid (HB.out.trans (bA.mono HB.out.size))
    have HM1 := Lib.hid (HM1.out.later bA)
    have HE1 := Lib.hid (HE1.out.later bA)
    have HE2 := Lib.hid eA
    clear bA eA tA
    refine hK.out _ _ ⟨fun _ => HB.out, ?_⟩
    have hHeld := HB.out
    clear hK
    try simp only [Act.put, List.setIfInBounds_toArray, List.set_cons_zero, List.set_cons_succ]
    refine AnyE.one (i := 3) rfl (by kernel_rfl) (by kernel_rfl) (fun KK hK => ?_)
    go_simp
    go_at_call 6
    refine (HEn.out _ HB.out).mono ?_
    rintro e9 Z11 ⟨⟨vr, fmD2, vq, tsD2, sqD2, kdD2, vv, rwD2, qlD2, vlD2⟩, rfl, hs9, hl9, b9, ha9⟩
    obtain ⟨pD2, mD2, cD2, e1⟩ := hl9.1.form
    obtain ⟨pqD2, mqD2, cqD2, e2⟩ := hl9.2.1.form
    obtain ⟨pvD2, mvD2, cvD2, e3⟩ := hl9.2.2.form
    simp only at e1 e2 e3
    subst e1 e2 e3
    have T11 : Hid (Z10.heap.size ≤ Z11.heap.size) := b9.size
    have Hnew := Lib.hid (Md.new hs9 hl9 ha9)
    have HB := Lib.hid (HB.out.trans (b9.mono HB.out.size))
    have HM1 := Lib.hid (HM1.out.later b9)
    have HE1 := Lib.hid (HE1.out.later b9)
    have HE2 := Lib.hid (HE2.out.later b9)
    have HM2 := Hnew
    clear Hnew hs9 hl9 ha9 b9
    simp only [EntD.cells]
    go_wp2_with fail
    refine hK.out _ _ ⟨fun _ => HB.out, ?_⟩
    have hHeld := HB.out
    clear hK
    try simp only [Act.put, List.setIfInBounds_toArray, List.set_cons_zero, List.set_cons_succ]
    have HPr := Lib.hid (pair_of HB.out HM1.out HM2.out HE1.out HE2.out (by have h0 := HB0.out; have q1 := T1.out; have q7 := T7.out; have q10 := T10.out; have q11 := T11.out; omega) (by have h0 := HB0.out; have q1 := T1.out; have q7 := T7.out; have q10 := T10.out; have q11 := T11.out; omega) (by have h0 := HB0.out; have q1 := T1.out; have q7 := T7.out; have q10 := T10.out; have q11 := T11.out; omega) (by have h0 := HB0.out; have q1 := T1.out; have q7 := T7.out; have q10 := T10.out; have q11 := T11.out; omega) (by have h0 := HB0.out; have q1 := T1.out; have q7 := T7.out; have q10 := T10.out; have q11 := T11.out; omega))
    have hb1 : wr.heap.size ≤ Z1.heap.size := by have h0 := HB0.out; have q1 := T1.out; have q7 := T7.out; have q10 := T10.out; have q11 := T11.out; omega
    have hb2 : wr.heap.size ≤ Z7.heap.size := by have h0 := HB0.out; have q1 := T1.out; have q7 := T7.out; have q10 := T10.out; have q11 := T11.out; omega
    have hne : Z7.heap.size ≠ Z1.heap.size := by have h0 := HB0.out; have q1 := T1.out; have q7 := T7.out; have q10 := T10.out; have q11 := T11.out; omega
    have HS1 := Lib.hid (below_filled HB.out hb1 (EntD.mk (.slice pD1 mD1 cD1) fmD1 (.slice pqD1 mqD1 cqD1) tsD1 sqD1 kdD1 (.slice pvD1 mvD1 cvD1) rwD1 qlD1 vlD1))
    have HS2 := Lib.hid (below_filled HS1.out hb2 (EntD.mk (.slice pD2 mD2 cD2) fmD2 (.slice pqD2 mqD2 cqD2) tsD2 sqD2 kdD2 (.slice pvD2 mvD2 cvD2) rwD2 qlD2 vlD2))
    have HE3 := Lib.hid (show EBox (filled Z11 (Z1.heap.size) (EntD.mk (.slice pD1 mD1 cD1) fmD1 (.slice pqD1 mqD1 cqD1) tsD1 sqD1 kdD1 (.slice pvD1 mvD1 cvD1) rwD1 qlD1 vlD1)) (Z7.heap.size) zeroD from ((filled_fb Z11 (Z1.heap.size) (EntD.mk (.slice pD1 mD1 cD1) fmD1 (.slice pqD1 mqD1 cqD1) tsD1 sqD1 kdD1 (.slice pvD1 mvD1 cvD1) rwD1 qlD1 vlD1)).block _ (Array.getElem?_eq_some_iff.1 HE2.out).1 hne).trans HE2.out)
    obtain ⟨z0, z1, z2, z3, z4, z5, z6⟩ := HE1.out.cells7
    obtain ⟨f0, f1, f2, f3, f4, f5, f6⟩ := HE1.out.fz7
    simp only [zeroD] at z0 z1 z2 z3 z4 z5 z6
    obtain ⟨y0, y1, y2, y3, y4, y5, y6⟩ := HE3.out.cells7
    obtain ⟨g0, g1, g2, g3, g4, g5, g6⟩ := HE3.out.fz7
    simp only [zeroD, filled] at y0 y1 y2 y3 y4 y5 y6 g0 g1 g2 g3 g4 g5 g6
    clear hHeld hb1 hb2 hne
    refine AnyE.one (i := 6) rfl (by kernel_rfl) (by kernel_rfl) (fun KK hK => ?_)
    go_simp
    refine hK.out _ _ ⟨fun _ => HS1.out, ?_⟩
    clear hK z0 z1 z2 z3 z4 z5 z6 f0 f1 f2 f3 f4 f5 f6
    try simp only [Act.put, List.setIfInBounds_toArray, List.set_cons_zero, List.set_cons_succ]
    refine AnyE.one (i := 7) rfl (by kernel_rfl) (by kernel_rfl) (fun KK hK => ?_)
    go_simp
    refine hK.out _ _ ⟨fun _ => HS2.out, ?_⟩
    clear hK
    refine AnyE.done (by kernel_rfl) (NoPanic.normal ?_) _
    exact hQ.out _ _ _ _ _ HPr.out
  ·go_simp
   have bA := (Below.refl Z1.heap.size Z1).alloc (Nat.le_refl _) (.cells #[.slice none 0 0, .int .i64 0, .slice none 0 0, .int .i64 0, .int .i64 0, .int .i64 0, .slice none 0 0] 38)
   have eA : EBox (Z1.alloc (.cells #[.slice none 0 0, .int .i64 0, .slice none 0 0, .int .i64 0, .int .i64 0, .int .i64 0, .slice none 0 0] 38)) Z1.heap.size zeroD := EBox.new Z1 zeroD
   have tA : (Z1.alloc (.cells #[.slice none 0 0, .int .i64 0, .slice none 0 0, .int .i64 0, .int .i64 0, .int .i64 0, .slice none 0 0] 38)).heap.size = Z1.heap.size + 1 := by simp
   obtain ⟨Z12, hZ⟩ : ∃ z, z = Z1.alloc (.cells #[.slice none 0 0, .int .i64 0, .slice none 0 0, .int .i64 0, .int .i64 0, .int .i64 0, .slice none 0 0] 38) := ⟨_, rfl⟩
   rw [← hZ] at bA eA tA ⊢
   clear hZ
   have T12 := Lib.hid tA
   have HB := Lib.hid (HB.out.trans (bA.mono HB.out.size))
   have HM1 := Lib.hid (HM1.out.later bA)
   have HE2 := Lib.hid eA
   clear bA eA tA
   refine hK.out _ _ ⟨fun _ => HB.out, ?_⟩
   have hHeld := HB.out
   clear hK
   try simp only [Act.put, List.setIfInBounds_toArray, List.set_cons_zero, List.set_cons_succ]
   refine AnyE.twoF (i := 3) (j := 4) rfl rfl (by kernel_rfl) (by kernel_rfl) (by kernel_rfl) (fun KK hK => ?_) (fun KK hK => ?_)
   ·go_simp
    go_at_call 6
    refine (HEn.out _ HB.out).mono ?_
    rintro e9 Z13 ⟨⟨vr, fmD2, vq, tsD2, sqD2, kdD2, vv, rwD2, qlD2, vlD2⟩, rfl, hs9, hl9, b9, ha9⟩
    obtain ⟨pD2, mD2, cD2, e1⟩ := hl9.1.form
    obtain ⟨pqD2, mqD2, cqD2, e2⟩ := hl9.2.1.form
    obtain ⟨pvD2, mvD2, cvD2, e3⟩ := hl9.2.2.form
    simp only at e1 e2 e3
    subst e1 e2 e3
    have T13 : Hid (Z12.heap.size ≤ Z13.heap.size) := b9.size
    have Hnew := Lib.hid (Md.new hs9 hl9 ha9)
    have HB := Lib.hid (HB.out.trans (b9.mono HB.out.size))
    have HM1 := Lib.hid (HM1.out.later b9)
    have HE2 := Lib.hid (HE2.out.later b9)
    have HM2 := Hnew
    clear Hnew hs9 hl9 ha9 b9
    simp only [EntD.cells]
    go_wp2_with fail
    refine hK.out _ _ ⟨fun _ => HB.out, ?_⟩
    have hHeld := HB.out
    clear hK
    try simp only [Act.put, List.setIfInBounds_toArray, List.set_cons_zero, List.set_cons_succ]
    refine AnyE.one (i := 4) rfl (by kernel_rfl) (by kernel_rfl) (fun KK hK => ?_)
    go_simp
    have bA := (Below.refl Z13.heap.size Z13).alloc (Nat.le_refl _) (.cells #[.slice none 0 0, .int .i64 0, .slice none 0 0, .int .i64 0, .int .i64 0, .int .i64 0, .slice none 0 0] 38)
    have eA : EBox (Z13.alloc (.cells #[.slice none 0 0, .int .i64 0, .slice none 0 0, .int .i64 0, .int .i64 0, .int .i64 0, .slice none 0 0] 38)) Z13.heap.size zeroD := EBox.new Z13 zeroD
    have tA : (Z13.alloc (.cells #[.slice none 0 0, .int .i64 0, .slice none 0 0, .int .i64 0, .int .i64 0, .int .i64 0, .slice none 0 0] 38)).heap.size = Z13.heap.size + 1 := by simp
    obtain ⟨Z14, hZ⟩ : ∃ z, z = Z13.alloc (.cells #[.slice none 0 0, .int .i64 0, .slice none 0 0, .int .i64 0, .int .i64 0, .int .i64 0, .slice none 0 0] 38) := ⟨_, rfl⟩
    rw [← hZ] at bA eA tA ⊢
    clear hZ
    have T14 := Lib.hid tA
    have HB := Lib.hid (HB.out.trans (bA.mono HB.out.size))
    have HM1 := Lib.hid (HM1.out.later bA)
    have HM2 := Lib.hid (HM2.out.later bA)
    have HE2 := Lib.hid (HE2.out.later bA)
    have HE1 := Lib.hid eA
    clear bA eA tA
    refine hK.out _ _ ⟨fun _ => HB.out, ?_⟩
    have hHeld := HB.out
    clear hK
    try simp only [Act.put, List.setIfInBounds_toArray, List.set_cons_zero, List.set_cons_succ]
    have HPr := Lib.hid (pair_of HB.out HM1.out HM2.out HE1.out HE2.out (by have h0 := HB0.out; have q1 := T1.out; have q12 := T12.out; have q13 := T13.out; have q14 := T14.out; omega) (by have h0 := HB0.out; have q1 := T1.out; have q12 := T12.out; have q13 := T13.out; have q14 := T14.out; omega) (by have h0 := HB0.out; have q1 := T1.out; have q12 := T12.out; have q13 := T13.out; have q14 := T14.out; omega) (by have h0 := HB0.out; have q1 := T1.out; have q12 := T12.out; have q13 := T13.out; have q14 := T14.out; omega) (by have h0 := HB0.out; have q1 := T1.out; have q12 := T12.out; have q13 := T13.out; have q14 := T14.out; omega))
    have hb1 : wr.heap.size ≤ Z13.heap.size := by have h0 := HB0.out; have q1 := T1.out; have q12 := T12.out; have q13 := T13.out; have q14 := T14.out; omega
    have hb2 : wr.heap.size ≤ Z1.heap.size := by have h0 := HB0.out; have q1 := T1.out; have q12 := T12.out; have q13 := T13.out; have q14 := T14.out; omega
    have hne : Z1.heap.size ≠ Z13.heap.size := by have h0 := HB0.out; have q1 := T1.out; have q12 := T12.out; have q13 := T13.out; have q14 := T14.out; omega
    have HS1 := Lib.hid (below_filled HB.out hb1 (EntD.mk (.slice pD1 mD1 cD1) fmD1 (.slice pqD1 mqD1 cqD1) tsD1 sqD1 kdD1 (.slice pvD1 mvD1 cvD1) rwD1 qlD1 vlD1))
    have HS2 := Lib.hid (below_filled HS1.out hb2 (EntD.mk (.slice pD2 mD2 cD2) fmD2 (.slice pqD2 mqD2 cqD2) tsD2 sqD2 kdD2 (.slice pvD2 mvD2 cvD2) rwD2 qlD2 vlD2))
    have HE3 := Lib.hid (show EBox (filled Z14 (Z13.heap.size) (EntD.mk (.slice pD1 mD1 cD1) fmD1 (.slice pqD1 mqD1 cqD1) tsD1 sqD1 kdD1 (.slice pvD1 mvD1 cvD1) rwD1 qlD1 vlD1)) (Z1.heap.size) zeroD from ((filled_fb Z14 (Z13.heap.size) (EntD.mk (.slice pD1 mD1 cD1) fmD1 (.slice pqD1 mqD1 cqD1) tsD1 sqD1 kdD1 (.slice pvD1 mvD1 cvD1) rwD1 qlD1 vlD1)).block _ (Array.getElem?_eq_some_iff.1 HE2.out).1 hne).trans HE2.out)
    obtain ⟨z0, z1, z2, z3, z4, z5, z6⟩ := HE1.out.cells7
    obtain ⟨f0, f1, f2, f3, f4, f5, f6⟩ := HE1.out.fz7
    simp only [zeroD] at z0 z1 z2 z3 z4 z5 z6
    obtain ⟨y0, y1, y2, y3, y4, y5, y6⟩ := HE3.out.cells7
    obtain ⟨g0, g1, g2, g3, g4, g5, g6⟩ := HE3.out.fz7
    simp only [zeroD, filled] at y0 y1 y2 y3 y4 y5 y6 g0 g1 g2 g3 g4 g5 g6
    clear hHeld hb1 hb2 hne
    refine AnyE.one (i := 6) rfl (by kernel_rfl) (by kernel_rfl) (fun KK hK => ?_)
    go_simp
    refine hK.out _ _ ⟨fun _ => HS1.out, ?_⟩
    clear hK z0 z1 z2 z3 z4 z5 z6 f0 f1 f2 f3 f4 f5 f6
    try simp only [Act.put, List.setIfInBounds_toArray, List.set_cons_zero, List.set_cons_succ]
    refine AnyE.one (i := 7) rfl (by kernel_rfl) (by kernel_rfl) (fun KK hK => ?_)
    go_simp
    refine hK.out _ _ ⟨fun _ => HS2.out, ?_⟩
    clear hK
    refine AnyE.done (by kernel_rfl) (NoPanic.normal ?_) _
    exact hQ.out _ _ _ _ _ HPr.out
   ·go_simp
    have bA := (Below.refl Z12.heap.size Z12).alloc (Nat.le_refl _) (.cells #[.slice none 0 0, .int .i64 0, .slice none 0 0, .int .i64 0, .int .i64 0, .int .i64 0, .slice none 0 0] 38)
    have eA : EBox (Z12.alloc (.cells #[.slice none 0 0, .int .i64 0, .slice none 0 0, .int .i64 0, .int .i64 0, .int .i64 0, .slice none 0 0] 38)) Z12.heap.size zeroD := EBox.new Z12 zeroD
    have tA : (Z12.alloc (.cells #[.slice none 0 0, .int .i64 0, .slice none 0 0, .int .i64 0, .int .i64 0, .int .i64 0, .slice none 0 0] 38)).heap.size = Z12.heap.size + 1 := by simp
    obtain ⟨Z15, hZ⟩ : ∃ z, z = Z12.alloc (.cells #[.slice none 0 0, .int .i64 0, .slice none 0 0, .int .i64 0, .int .i64 0, .int .i64 0, .slice none 0 0] 38) := ⟨_, rfl⟩
    rw [← hZ] at bA eA tA ⊢
    clear hZ
    have T15 := Lib.hid tA
    have HB := Lib.hid (HB.out.trans (bA.mono HB.out.size))
    have HM1 := Lib.hid (HM1.out.later bA)
    have HE2 := Lib.hid (HE2.out.later bA)
    have HE1 := Lib.hid eA
    clear bA eA tA
    refine hK.out _ _ ⟨fun _ => HB.out, ?_⟩
    have hHeld := HB.out
    clear hK
    try simp only [Act.put, List.setIfInBounds_toArray, List.set_cons_zero, List.set_cons_succ]
    refine AnyE.one (i := 3) rfl (by kernel_rfl) (by kernel_rfl) (fun KK hK => ?_)
    go_simp
    go_at_call 6
    refine (HEn.out _ HB.out).mono ?_
    rintro e9 Z16 ⟨⟨vr, fmD2, vq, tsD2, sqD2, kdD2, vv, rwD2, qlD2, vlD2⟩, rfl, hs9, hl9, b9, ha9⟩
    obtain ⟨pD2, mD2, cD2, e1⟩ := hl9.1.form
    obtain ⟨pqD2, mqD2, cqD2, e2⟩ := hl9.2.1.form
    obtain ⟨pvD2, mvD2, cvD2, e3⟩ := hl9.2.2.form
    simp only at e1 e2 e3
    subst e1 e2 e3
    have T16 : Hid (Z15.heap.size ≤ Z16.heap.size) := b9.size
    have Hnew := Lib.hid (Md.new hs9 hl9 ha9)
    have HB := Lib.hid (HB.out.trans (b9.mono HB.out.size))
    have HM1 := Lib.hid (HM1.out.later b9)
    have HE1 := Lib.hid (HE1.out.later b9)
    have HE2 := Lib.hid (HE2.out.later b9)
    have HM2 := Hnew
    clear Hnew hs9 hl9 ha9 b9
    simp only [EntD.cells]
    go_wp2_with fail
    refine hK.out _ _ ⟨fun _ => HB.out, ?_⟩
    have hHeld := HB.out
    clear hK
    try simp only [Act.put, List.setIfInBounds_toArray, List.set_cons_zero, List.set_cons_succ]
    have HPr := Lib.hid (pair_of HB.out HM1.out HM2.out HE1.out HE2.out (by have h0 := HB0.out; have q1 := T1.out; have q12 := T12.out; have q15 := T15.out; have q16 := T16.out; omega) (by have h0 := HB0.out; have q1 := T1.out; have q12 := T12.out; have q15 := T15.out; have q16 := T16.out; omega) (by have h0 := HB0.out; have q1 := T1.out; have q12 := T12.out; have q15 := T15.out; have q16 := T16.out; omega) (by have h0 := HB0.out; have q1 := T1.out; have q12 := T12.out; have q15 := T15.out; have q16 := T16.out; omega) (by have h0 := HB0.out; have q1 := T1.out; have q12 := T12.out; have q15 := T15.out; have q16 := T16.out; omega))
    have hb1 : wr.heap.size ≤ Z12.heap.size := by have h0 := HB0.out; have q1 := T1.out; have q12 := T12.out; have q15 := T15.out; have q16 := T16.out; omega
    have hb2 : wr.heap.size ≤ Z1.heap.size := by have h0 := HB0.out; have q1 := T1.out; have q12 := T12.out; have q15 := T15.out; have q16 := T16.out; omega
    have hne : Z1.heap.size ≠ Z12.heap.size := by have h0 := HB0.out; have q1 := T1.out; have q12 := T12.out; have q15 := T15.out; have q16 := T16.out; omega
    have HS1 := Lib.hid (below_filled HB.out hb1 (EntD.mk (.slice pD1 mD1 cD1) fmD1 (.slice pqD1 mqD1 cqD1) tsD1 sqD1 kdD1 (.slice pvD1 mvD1 cvD1) rwD1 qlD1 vlD1))
    have HS2 := Lib.hid (below_filled HS1.out hb2 (EntD.mk (.slice pD2 mD2 cD2) fmD2 (.slice pqD2 mqD2 cqD2) tsD2 sqD2 kdD2 (.slice pvD2 mvD2 cvD2) rwD2 qlD2 vlD2))
    have HE3 := Lib.hid (show EBox (filled Z16 (Z12.heap.size) (EntD.mk (.slice pD1 mD1 cD1) fmD1 (.slice pqD1 mqD1 cqD1) tsD1 sqD1 kdD1 (.slice pvD1 mvD1 cvD1) rwD1 qlD1 vlD1)) (Z1.heap.size) zeroD from ((filled_fb Z16 (Z12.heap.size) (EntD.mk (.slice pD1 mD1 cD1) fmD1 (.slice pqD1 mqD1 cqD1) tsD1 sqD1 kdD1 (.slice pvD1 mvD1 cvD1) rwD1 qlD1 vlD1)).block _ (Array.getElem?_eq_some_iff.1 HE2.out).1 hne).trans HE2.out)
    obtain ⟨z0, z1, z2, z3, z4, z5, z6⟩ := HE1.out.cells7
    obtain ⟨f0, f1, f2, f3, f4, f5, f6⟩ := HE1.out.fz7
    simp only [zeroD] at z0 z1 z2 z3 z4 z5 z6
    obtain ⟨y0, y1, y2, y3, y4, y5, y6⟩ := HE3.out.cells7
    obtain ⟨g0, g1, g2, g3, g4, g5, g6⟩ := HE3.out.fz7
    simp only [zeroD, filled] at y0 y1 y2 y3 y4 y5 y6 g0 g1 g2 g3 g4 g5 g6
    clear hHeld hb1 hb2 hne
    refine AnyE.one (i := 6) rfl (by kernel_rfl) (by kernel_rfl) (fun KK hK => ?_)
    go_simp
    refine hK.out _ _ ⟨fun _ => HS1.out, ?_⟩
    clear hK z0 z1 z2 z3 z4 z5 z6 f0 f1 f2 f3 f4 f5 f6
    try simp only [Act.put, List.setIfInBounds_toArray, List.set_cons_zero, List.set_cons_succ]
    refine AnyE.one (i := 7) rfl (by kernel_rfl) (by kernel_rfl) (fun KK hK => ?_)
    go_simp
    refine hK.out _ _ ⟨fun _ => HS2.out, ?_⟩
    clear hK
    refine AnyE.done (by kernel_rfl) (NoPanic.normal ?_) _
    exact hQ.out _ _ _ _ _ HPr.out
 ·go_simp
  have bA := (Below.refl Z0.heap.size Z0).alloc (Nat.le_refl _) (.cells #[.slice none 0 0, .int .i64 0, .slice none 0 0, .int .i64 0, .int .i64 0, .int .i64 0, .slice none 0 0] 38)
  have eA : EBox (Z0.alloc (.cells #[.slice none 0 0, .int .i64 0, .slice none 0 0, .int .i64 0, .int .i64 0, .int .i64 0, .slice none 0 0] 38)) Z0.heap.size zeroD := EBox.new Z0 zeroD
  have tA : (Z0.alloc (.cells #[.slice none 0 0, .int .i64 0, .slice none 0 0, .int .i64 0, .int .i64 0, .int .i64 0, .slice none 0 0] 38)).heap.size = Z0.heap.size + 1 := by simp
  obtain ⟨Z17, hZ⟩ : ∃ z, z = Z0.alloc (.cells #[.slice none 0 0, .int .i64 0, .slice none 0 0, .int .i64 0, .int .i64 0, .int .i64 0, .slice none 0 0] 38) := ⟨_, rfl⟩
  rw [← hZ] at bA eA tA ⊢
  clear hZ
  have T17 := Lib.hid tA
  have HB := Lib.hid (HB.out.trans (bA.mono HB.out.size))
  have HE1 := Lib.hid eA
  clear bA eA tA
  refine hK.out _ _ ⟨fun _ => HB.out, ?_⟩
  have hHeld := HB.out
  clear hK
  try simp only [Act.put, List.setIfInBounds_toArray, List.set_cons_zero, List.set_cons_succ]
  refine AnyE.twoF (i := 1) (j := 5) rfl rfl (by kernel_rfl) (by kernel_rfl) (by kernel_rfl) (fun KK hK => ?_) (fun KK hK => ?_)
  ·go_simp
   go_at_call 6
   refine (HEn.out _ HB.out).mono ?_
   rintro e9 Z18 ⟨⟨vr, fmD1, vq, tsD1, sqD1, kdD1, vv, rwD1, qlD1, vlD1⟩, rfl, hs9, hl9, b9, ha9⟩
   obtain ⟨pD1, mD1, cD1, e1⟩ := hl9.1.form
   obtain ⟨pqD1, mqD1, cqD1, e2⟩ := hl9.2.1.form
   obtain ⟨pvD1, mvD1, cvD1, e3⟩ := hl9.2.2.form
   simp only at e1 e2 e3
   subst e1 e2 e3
   have T18 : Hid (Z17.heap.size ≤ Z18.heap.size) := b9.size
   have Hnew := Lib.hid (Md.new hs9 hl9 ha9)
   have HB := Lib.hid (HB.out.trans (b9.mono HB.out.size))
   have HE1 := Lib.hid (HE1.out.later b9)
   have HM1 := Hnew
   clear Hnew hs9 hl9 ha9 b9
   simp only [EntD.cells]
   go_wp2_with fail
   refine hK.out _ _ ⟨fun _ => HB.out, ?_⟩
   have hHeld := HB.out
   clear hK
   try simp only [Act.put, List.setIfInBounds_toArray, List.set_cons_zero, List.set_cons_succ]
   refine AnyE.twoF (i := 3) (j := 5) rfl rfl (by kernel_rfl) (by kernel_rfl) (by kernel_rfl) (fun KK hK => ?_) (fun KK hK => ?_)
   ·go_simp
    go_at_call 6
    refine (HEn.out _ HB.out).mono ?_
    rintro e9 Z19 ⟨⟨vr, fmD2, vq, tsD2, sqD2, kdD2, vv, rwD2, qlD2, vlD2⟩, rfl, hs9, hl9, b9, ha9⟩
    obtain ⟨pD2, mD2, cD2, e1⟩ := hl9.1.form
    obtain ⟨pqD2, mqD2, cqD2, e2⟩ := hl9.2.1.form
    obtain ⟨pvD2, mvD2, cvD2, e3⟩ := hl9.2.2.form
    simp only at e1 e2 e3
    subst e1 e2 e3
    have T19 : Hid (Z18.heap.size ≤ Z19.heap.size) := b9.size
    have Hnew := Lib.hid (Md.new hs9 hl9 ha9)
    have HB := Lib.hid (HB.out.trans (b9.mono HB.out.size))
    have HM1 := Lib.hid (HM1.out.later b9)
    have HE1 := Lib.hid (HE1.out.later b9)
    have HM2 := Hnew
    clear Hnew hs9 hl9 ha9 b9
    simp only [EntD.cells]
    go_wp2_with fail
    refine hK.out _ _ ⟨fun _ => HB.out, ?_⟩
    have hHeld := HB.out
    clear hK
    try simp only [Act.put, List.setIfInBounds_toArray, List.set_cons_zero, List.set_cons_succ]
    refine AnyE.one (i := 5) rfl (by kernel_rfl) (by kernel_rfl) (fun KK hK => ?_)
    go_simp
    have bA := (Below.refl Z19.heap.size Z19).alloc (Nat.le_refl _) (.cells #[.slice none 0 0, .int .i64 0, .slice none 0 0, .int .i64 0, .int .i64 0, .int .i64 0, .slice none 0 0] 38)
    have eA : EBox (Z19.alloc (.cells #[.slice none 0 0, .int .i64 0, .slice none 0 0, .int .i64 0, .int .i64 0, .int .i64 0, .slice none 0 0] 38)) Z19.heap.size zeroD := EBox.new Z19 zeroD
    have tA : (Z19.alloc (.cells #[.slice none 0 0, .int .i64 0, .slice none 0 0, .int .i64 0, .int .i64 0, .int .i64 0, .slice none 0 0] 38)).heap.size = Z19.heap.size + 1 := by simp
    obtain ⟨Z20, hZ⟩ : ∃ z, z = Z19.alloc (.cells #[.slice none 0 0, .int .i64 0, .slice none 0 0, .int .i64 0, .int .i64 0, .int .i64 0, .slice none 0 0] 38) := ⟨_, rfl⟩
    rw [← hZ] at bA eA tA ⊢
    clear hZ
    have T20 := Lib.hid tA
    have HB := Lib.hid (HB.out.trans (bA.mono HB.out.size))
    have HM1 := Lib.hid (HM1.out.later bA)
    have HM2 := Lib.hid (HM2.out.later bA)
    have HE1 := Lib.hid (HE1.out.later bA)
    have HE2 := Lib.hid eA
    clear bA eA tA
    refine hK.out _ _ ⟨fun _ => HB.out, ?_⟩
    have hHeld := HB.out
    clear hK
    try simp only [Act.put, List.setIfInBounds_toArray, List.set_cons_zero, List.set_cons_succ]
    have HPr := Lib.hid (pair_of HB.out HM1.out HM2.out HE1.out HE2.out (by have h0 := HB0.out; have q17 := T17.out; have q18 := T18.out; have q19 := T19.out; have q20 := T20.out; omega) (by have h0 := HB0.out; have q17 := T17.out; have q18 := T18.out; have q19 := T19.out; have q20 := T20.out; omega) (by have h0 := HB0.out; have q17 := T17.out; have q18 := T18.out; have q19 := T19.out; have q20 := T20.out; omega) (by have h0 := HB0.out; have q17 := T17.out; have q18 := T18.out; have q19 := T19.out; have q20 := T20.out; omega) (by have h0 := HB0.out; have q17 := T17.out; have q18 := T18.out; have q19 := T19.out; have q20 := T20.out; omega))
    have hb1 : wr.heap.size ≤ Z0.heap.size := by have h0 := HB0.out; have q17 := T17.out; have q18 := T18.out; have q19 := T19.out; have q20 := T20.out; omega
    have hb2 : wr.heap.size ≤ Z19.heap.size := by have h0 := HB0.out; have q17 := T17.out; have q18 := T18.out; have q19 := T19.out; have q20 := T20.out; omega
    have hne : Z19.heap.size ≠ Z0.heap.size := by have h0 := HB0.out; have q17 := T17.out; have q18 := T18.out; have q19 := T19.out; have q20 := T20.out; omega
    have HS1 := Lib.hid (below_filled HB.out hb1 (EntD.mk (.slice pD1 mD1 cD1) fmD1 (.slice pqD1 mqD1 cqD1) tsD1 sqD1 kdD1 (.slice pvD1 mvD1 cvD1) rwD1 qlD1 vlD1))
    have HS2 := Lib.hid (below_filled HS1.out hb2 (EntD.mk (.slice pD2 mD2 cD2) fmD2 (.slice pqD2 mqD2 cqD2) tsD2 sqD2 kdD2 (.slice pvD2 mvD2 cvD2) rwD2 qlD2 vlD2))
    have HE3 := Lib.hid (show EBox (filled Z20 (Z0.heap.size) (EntD.mk (.slice pD1 mD1 cD1) fmD1 (.slice pqD1 mqD1 cqD1) tsD1 sqD1 kdD1 (.slice pvD1 mvD1 cvD1) rwD1 qlD1 vlD1)) (Z19.heap.size) zeroD from ((filled_fb Z20 (Z0.heap.size) (EntD.mk (.slice pD1 mD1 cD1) fmD1 (.slice pqD1 mqD1 cqD1) tsD1 sqD1 kdD1 (.slice pvD1 mvD1 cvD1) rwD1 qlD1 vlD1)).block _ (Array.getElem?_eq_some_iff.1 HE2.out).1 hne).trans HE2.out)
    obtain ⟨z0, z1, z2, z3, z4, z5, z6⟩ := HE1.out.cells7
    obtain ⟨f0, f1, f2, f3, f4, f5, f6⟩ := HE1.out.fz7
    simp only [zeroD] at z0 z1 z2 z3 z4 z5 z6
    obtain ⟨y0, y1, y2, y3, y4, y5, y6⟩ := HE3.out.cells7
    obtain ⟨g0, g1, g2, g3, g4, g5, g6⟩ := HE3.out.fz7
    simp only [zeroD, filled] at y0 y1 y2 y3 y4 y5 y6 g0 g1 g2 g3 g4 g5 g6
    clear hHeld hb1 hb2 hne
    refine AnyE.one (i := 6) rfl (by kernel_rfl) (by kernel_rfl) (fun KK hK => ?_)
    go_simp
    refine hK.out _ _ ⟨fun _ => HS1.out, ?_⟩
    clear hK z0 z1 z2 z3 z4 z5 z6 f0 f1 f2 f3 f4 f5 f6
    try simp only [Act.put, List.setIfInBounds_toArray, List.set_cons_zero, List.set_cons_succ]
    refine AnyE.one (i := 7) rfl (by kernel_rfl) (by kernel_rfl) (fun KK hK => ?_)
    go_simp
    refine hK.out _ _ ⟨fun _ => HS2.out, ?_⟩
    clear hK
    refine AnyE.done (by kernel_rfl) (NoPanic.normal ?_) _
    exact hQ.out _ _ _ _ _ HPr.out
   ·go_simp
    have bA := (Below.refl Z18.heap.size Z18).alloc (Nat.le_refl _) (.cells #[.slice none 0 0, .int .i64 0, .slice none 0 0, .int .i64 0, .int .i64 0, .int .i64 0, .slice none 0 0] 38)
    have eA : EBox (Z18.alloc (.cells #[.slice none 0 0, .int .i64 0, .slice none 0 0, .int .i64 0, .int .i64 0, .int .i64 0, .slice none 0 0] 38)) Z18.heap.size zeroD := EBox.new Z18 zeroD
    have tA : (Z18.alloc (.cells #[.slice none 0 0, .int .i64 0, .slice none 0 0, .int .i64 0, .int .i64 0, .int .i64 0, .slice none 0 0] 38)).heap.size = Z18.heap.size + 1 := by simp
    obtain ⟨Z21, hZ⟩ : ∃ z, z = Z18.alloc (.cells #[.slice none 0 0, .int .i64 0, .slice none 0 0, .int .i64 0, .int .i64 0, .int .i64 0, .slice none 0 0] 38) := ⟨_, rfl⟩
    rw [← hZ] at bA eA tA ⊢
    clear hZ
    have T21 := Lib.hid tA
    have HB := Lib.hid (HB.out.trans (bA.mono HB.out.size))
    have HM1 := Lib.hid (HM1.out.later bA)
    have HE1 := Lib.hid (HE1.out.later bA)
    have HE2 := Lib.hid eA
    clear bA eA tA
    refine hK.out _ _ ⟨fun _ => HB.out, ?_⟩
    have hHeld := HB.out
    clear hK
    try simp only [Act.put, List.setIfInBounds_toArray, List.set_cons_zero, List.set_cons_succ]
    refine AnyE.one (i := 3) rfl (by kernel_rfl) (by kernel_rfl) (fun KK hK => ?_)
    go_simp
    go_at_call 6
    refine (HEn.out _ HB.out).mono ?_
    rintro e9 Z22 ⟨⟨vr, fmD2, vq, tsD2, sqD2, kdD2, vv, rwD2, qlD2, vlD2⟩, rfl, hs9, hl9, b9, ha9⟩
    obtain ⟨pD2, mD2, cD2, e1⟩ := hl9.1.form
    obtain ⟨pqD2, mqD2, cqD2, e2⟩ := hl9.2.1.form
    obtain ⟨pvD2, mvD2, cvD2, e3⟩ := hl9.2.2.form
    simp only at e1 e2 e3
    subst e1 e2 e3
    have T22 : Hid (Z21.heap.size ≤ Z22.heap.size) := b9.size
    have Hnew := Lib.hid (Md.new hs9 hl9 ha9)
    have HB := Lib.hid (HB.out.trans (b9.mono HB.out.size))
    have HM1 := Lib.hid (HM1.out.later b9)
    have HE1 := Lib.hid (HE1.out.later b9)
    have HE2 := Lib.hid (HE2.out.later b9)
    have HM2 := Hnew
    clear Hnew hs9 hl9 ha9 b9
    simp only [EntD.cells]
    go_wp2_with fail
    refine hK.out _ _ ⟨fun _ => HB.out, ?_⟩
    have hHeld := HB.out
    clear hK
    try simp only [Act.put, List.setIfInBounds_toArray, List.set_cons_zero, List.set_cons_succ]
    have HPr := Lib.hid (pair_of HB.out HM1.out HM2.out HE1.out HE2.out (by have h0 := HB0.out; have q17 := T17.out; have q18 := T18.out; have q21 := T21.out; have q22 := T22.out; omega) (by have h0 := HB0.out; have q17 := T17.out; have q18 := T18.out; have q21 := T21.out; have q22 := T22.out; omega) (by have h0 := HB0.out; have q17 := T17.out; have q18 := T18.out; have q21 := T21.out; have q22 := T22.out; omega) (by have h0 := HB0.out; have q17 := T17.out; have q18 := T18.out; have q21 := T21.out; have q22 := T22.out; omega) (by have h0 := HB0.out; have q17 := T17.out; have q18 := T18.out; have q21 := T21.out; have q22 := T22.out; omega))
    have hb1 : wr.heap.size ≤ Z0.heap.size := by have h0 := HB0.out; have q17 := T17.out; have q18 := T18.out; have q21 := T21.out; have q22 := T22.out; omega
    have hb2 : wr.heap.size ≤ Z18.heap.size := by have h0 := HB0.out; have q17 := T17.out; have q18 := T18.out; have q21 := T21.out; have q22 := T22.out; omega
    have hne : Z18.heap.size ≠ Z0.heap.size := by have h0 := HB0.out; have q17 := T17.out; have q18 := T18.out; have q21 := T21.out; have q22 := T22.out; omega
    have HS1 := Lib.hid (below_filled HB.out hb1 (EntD.mk (.slice pD1 mD1 cD1) fmD1 (.slice pqD1 mqD1 cqD1) tsD1 sqD1 kdD1 (.slice pvD1 mvD1 cvD1) rwD1 qlD1 vlD1))
    have HS2 := Lib.hid (below_filled HS1.out hb2 (EntD.mk (.slice pD2 mD2 cD2) fmD2 (.slice pqD2 mqD2 cqD2) tsD2 sqD2 kdD2 (.slice pvD2 mvD2 cvD2) rwD2 qlD2 vlD2))
    have HE3 := Lib.hid (show EBox (filled Z22 (Z0.heap.size) (EntD.mk (.slice pD1 mD1 cD1) fmD1 (.slice pqD1 mqD1 cqD1) tsD1 sqD1 kdD1 (.slice pvD1 mvD1 cvD1) rwD1 qlD1 vlD1)) (Z18.heap.size) zeroD from ((filled_fb Z22 (Z0.heap.size) (EntD.mk (.slice pD1 mD1 cD1) fmD1 (.slice pqD1 mqD1 cqD1) tsD1 sqD1 kdD1 (.slice pvD1 mvD1 cvD1) rwD1 qlD1 vlD1)).block _ (Array.getElem?_eq_some_iff.1 HE2.out).1 hne).trans HE2.out)
    obtain ⟨z0, z1, z2, z3, z4, z5, z6⟩ := HE1.out.cells7
    obtain ⟨f0, f1, f2, f3, f4, f5, f6⟩ := HE1.out.fz7
    simp only [zeroD] at z0 z1 z2 z3 z4 z5 z6
    obtain ⟨y0, y1, y2, y3, y4, y5, y6⟩ := HE3.out.cells7
    obtain ⟨g0, g1, g2, g3, g4, g5, g6⟩ := HE3.out.fz7
    simp only [zeroD, filled] at y0 y1 y2 y3 y4 y5 y6 g0 g1 g2 g3 g4 g5 g6
    clear hHeld hb1 hb2 hne
    refine AnyE.one (i := 6) rfl (by kernel_rfl) (by kernel_rfl) (fun KK hK => ?_)
    go_simp
    refine hK.out _ _ ⟨fun _ => HS1.out, ?_⟩
    clear hK z0 z1 z2 z3 z4 z5 z6 f0 f1 f2 f3 f4 f5 f6
    try simp only [Act.put, List.setIfInBounds_toArray, List.set_cons_zero, List.set_cons_succ]
    refine AnyE.one (i := 7) rfl (by kernel_rfl) (by kernel_rfl) (fun KK hK => ?_)
    go_simp
    refine hK.out _ _ ⟨fun _ => HS2.out, ?_⟩
    clear hK
    refine AnyE.done (by kernel_rfl) (NoPanic.normal ?_) _
    exact hQ.out _ _ _ _ _ HPr.out
  ·go_simp
   have bA := (Below.refl Z17.heap.size Z17).alloc (Nat.le_refl _) (.cells #[.slice none 0 0, .int .i64 0, .slice none 0 0, .int .i64 0, .int .i64 0, .int .i64 0, .slice none 0 0] 38)
   have eA : EBox (Z17.alloc (.cells #[.slice none 0 0, .int .i64 0, .slice none 0 0, .int .i64 0, .int .i64 0, .int .i64 0, .slice none 0 0] 38)) Z17.heap.size zeroD := EBox.new Z17 zeroD
   have tA : (Z17.alloc (.cells #[.slice none 0 0, .int .i64 0, .slice none 0 0, .int .i64 0, .int .i64 0, .int .i64 0, .slice none 0 0] 38)).heap.size = Z17.heap.size + 1 := by simp
   obtain ⟨Z23, hZ⟩ : ∃ z, z = Z17.alloc (.cells #[.slice none 0 0, .int .i64 0, .slice none 0 0, .int .i64 0, .int .i64 0, .int .i64 0, .slice none 0 0] 38) := ⟨_, rfl⟩
   rw [← hZ] at bA eA tA ⊢
   clear hZ
   have T23 := Lib.hid tA
   have HB := Lib.hid (HB.out.trans (bA.mono HB.out.size))
   have HE1 := Lib.hid (HE1.out.later bA)
   have HE2 := Lib.hid eA
   clear bA eA tA
   refine hK.out _ _ ⟨fun _ => HB.out, ?_⟩
   have hHeld := HB.out
   clear hK
   try simp only [Act.put, List.setIfInBounds_toArray, List.set_cons_zero, List.set_cons_succ]
   refine AnyE.one (i := 1) rfl (by kernel_rfl) (by kernel_rfl) (fun KK hK => ?_)
   go_simp
   go_at_call 6
   refine (HEn.out _ HB.out).mono ?_
   rintro e9 Z24 ⟨⟨vr, fmD1, vq, tsD1, sqD1, kdD1, vv, rwD1, qlD1, vlD1⟩, rfl, hs9, hl9, b9, ha9⟩
   obtain ⟨pD1, mD1, cD1, e1⟩ := hl9.1.form
   obtain ⟨pqD1, mqD1, cqD1, e2⟩ := hl9.2.1.form
   obtain ⟨pvD1, mvD1, cvD1, e3⟩ := hl9.2.2.form
   simp only at e1 e2 e3
   subst e1 e2 e3
   have T24 : Hid (Z23.heap.size ≤ Z24.heap.size) := b9.size
   have Hnew := Lib.hid (Md.new hs9 hl9 ha9)
   have HB := Lib.hid (HB.out.trans (b9.mono HB.out.size))
   have HE1 := Lib.hid (HE1.out.later b9)
   have HE2 := Lib.hid (HE2.out.later b9)
   have HM1 := Hnew
   clear Hnew hs9 hl9 ha9 b9
   simp only [EntD.cells]
   go_wp2_with fail
   refine hK.out _ _ ⟨fun _ => HB.out, ?_⟩
   have hHeld := HB.out
   clear hK
   try simp only [Act.put, List.setIfInBounds_toArray, List.set_cons_zero, List.set_cons_succ]
   refine AnyE.one (i := 3) rfl (by kernel_rfl) (by kernel_rfl) (fun KK hK => ?_)
   go_simp
   go_at_call 6
   refine (HEn.out _ HB.out).mono ?_
   rintro e9 Z25 ⟨⟨vr, fmD2, vq, tsD2, sqD2, kdD2, vv, rwD2, qlD2, vlD2⟩, rfl, hs9, hl9, b9, ha9⟩
   obtain ⟨pD2, mD2, cD2, e1⟩ := hl9.1.form
   obtain ⟨pqD2, mqD2, cqD2, e2⟩ := hl9.2.1.form
   obtain ⟨pvD2, mvD2, cvD2, e3⟩ := hl9.2.2.form
   simp only at e1 e2 e3
   subst e1 e2 e3
   have T25 : Hid (Z24.heap.size ≤ Z25.heap.size) := b9.size
   have Hnew := Lib.hid (Md.new hs9 hl9 ha9)
   have HB := Lib.hid (HB.out.trans (b9.mono HB.out.size))
   have HM1 := Lib.hid (HM1.out.later b9)
   have HE1 := Lib.hid (HE1.out.later b9)
   have HE2 := Lib.hid (HE2.out.later b9)
   have HM2 := Hnew
   clear Hnew hs9 hl9 ha9 b9
   simp only [EntD.cells]
   go_wp2_with fail
   refine hK.out _ _ ⟨fun _ => HB.out, ?_⟩
   have hHeld := HB.out
   clear hK
   try simp only [Act.put, List.setIfInBounds_toArray, List.set_cons_zero, List.set_cons_succ]
   have HPr := Lib.hid (pair_of HB.out HM1.out HM2.out HE1.out HE2.out (by have h0 := HB0.out; have q17 := T17.out; have q23 := T23.out; have q24 := T24.out; have q25 := T25.out; omega) (by have h0 := HB0.out; have q17 := T17.out; have q23 := T23.out; have q24 := T24.out; have q25 := T25.out; omega) (by have h0 := HB0.out; have q17 := T17.out; have q23 := T23.out; have q24 := T24.out; have q25 := T25.out; omega) (by have h0 := HB0.out; have q17 := T17.out; have q23 := T23.out; have q24 := T24.out; have q25 := T25.out; omega) (by have h0 := HB0.out; have q17 := T17.out; have q23 := T23.out; have q24 := T24.out; have q25 := T25.out; omega))
   have hb1 : wr.heap.size ≤ Z0.heap.size := by have h0 := HB0.out; have q17 := T17.out; have q23 := T23.out; have q24 := T24.out; have q25 := T25.out; omega
   have hb2 : wr.heap.size ≤ Z17.heap.size := by have h0 := HB0.out; have q17 := T17.out; have q23 := T23.out; have q24 := T24.out; have q25 := T25.out; omega
   have hne : Z17.heap.size ≠ Z0.heap.size := by have h0 := HB0.out; have q17 := T17.out; have q23 := T23.out; have q24 := T24.out; have q25 := T25.out; omega
   have HS1 := Lib.hid (below_filled HB.out hb1 (EntD.mk (.slice pD1 mD1 cD1) fmD1 (.slice pqD1 mqD1 cqD1) tsD1 sqD1 kdD1 (.slice pvD1 mvD1 cvD1) rwD1 qlD1 vlD1))
   have HS2 := Lib.hid (below_filled HS1.out hb2 (EntD.mk (.slice pD2 mD2 cD2) fmD2 (.slice pqD2 mqD2 cqD2) tsD2 sqD2 kdD2 (.slice pvD2 mvD2 cvD2) rwD2 qlD2 vlD2))
   have HE3 := Lib.hid (show EBox (filled Z25 (Z0.heap.size) (EntD.mk (.slice pD1 mD1 cD1) fmD1 (.slice pqD1 mqD1 cqD1) tsD1 sqD1 kdD1 (.slice pvD1 mvD1 cvD1) rwD1 qlD1 vlD1)) (Z17.heap.size) zeroD from ((filled_fb Z25 (Z0.heap.size) (EntD.mk (.slice pD1 mD1 cD1) fmD1 (.slice pqD1 mqD1 cqD1) tsD1 sqD1 kdD1 (.slice pvD1 mvD1 cvD1) rwD1 qlD1 vlD1)).block _ (Array.getElem?_eq_some_iff.1 HE2.out).1 hne).trans HE2.out)
   obtain ⟨z0, z1, z2, z3, z4, z5, z6⟩ := HE1.out.cells7
   obtain ⟨f0, f1, f2, f3, f4, f5, f6⟩ := HE1.out.fz7
   simp only [zeroD] at z0 z1 z2 z3 z4 z5 z6
   obtain ⟨y0, y1, y2, y3, y4, y5, y6⟩ := HE3.out.cells7
   obtain ⟨g0, g1, g2, g3, g4, g5, g6⟩ := HE3.out.fz7
   simp only [zeroD, filled] at y0 y1 y2 y3 y4 y5 y6 g0 g1 g2 g3 g4 g5 g6
   clear hHeld hb1 hb2 hne
   refine AnyE.one (i := 6) rfl (by kernel_rfl) (by kernel_rfl) (fun KK hK => ?_)
   go_simp
   refine hK.out _ _ ⟨fun _ => HS1.out, ?_⟩
   clear hK z0 z1 z2 z3 z4 z5 z6 f0 f1 f2 f3 f4 f5 f6
   try simp only [Act.put, List.setIfInBounds_toArray, List.set_cons_zero, List.set_cons_succ]
   refine AnyE.one (i := 7) rfl (by kernel_rfl) (by kernel_rfl) (fun KK hK => ?_)
   go_simp
   refine hK.out _ _ ⟨fun _ => HS2.out, ?_⟩
   clear hK
   refine AnyE.done (by kernel_rfl) (NoPanic.normal ?_) _
   exact hQ.out _ _ _ _ _ HPr.out
 ·go_simp
  have bA := (Below.refl Z0.heap.size Z0).alloc (Nat.le_refl _) (.cells #[.slice none 0 0, .int .i64 0, .slice none 0 0, .int .i64 0, .int .i64 0, .int .i64 0, .slice none 0 0] 38)
  have eA : EBox (Z0.alloc (.cells #[.slice none 0 0, .int .i64 0, .slice none 0 0, .int .i64 0, .int .i64 0, .int .i64 0, .slice none 0 0] 38)) Z0.heap.size zeroD := EBox.new Z0 zeroD
  have tA : (Z0.alloc (.cells #[.slice none 0 0, .int .i64 0, .slice none 0 0, .int .i64 0, .int .i64 0, .int .i64 0, .slice none 0 0] 38)).heap.size = Z0.heap.size + 1 := by simp
  obtain ⟨Z26, hZ⟩ : ∃ z, z = Z0.alloc (.cells #[.slice none 0 0, .int .i64 0, .slice none 0 0, .int .i64 0, .int .i64 0, .int .i64 0, .slice none 0 0] 38) := ⟨_, rfl⟩
  rw [← hZ] at bA eA tA ⊢
  clear hZ
  have T26 := Lib.hid tA
  have HB := Lib.hid (HB.out.trans (bA.mono HB.out.size))
  have HE2 := Lib.hid eA
  clear bA eA tA
  refine hK.out _ _ ⟨fun _ => HB.out, ?_⟩
  have hHeld := HB.out
  clear hK
  try simp only [Act.put, List.setIfInBounds_toArray, List.set_cons_zero, List.set_cons_succ]
  refine AnyE.twoF (i := 1) (j := 4) rfl rfl (by kernel_rfl) (by kernel_rfl) (by kernel_rfl) (fun KK hK => ?_) (fun KK hK => ?_)
  ·go_simp
   go_at_call 6
   refine (HEn.out _ HB.out).mono ?_
   rintro e9 Z27 ⟨⟨vr, fmD1, vq, tsD1, sqD1, kdD1, vv, rwD1, qlD1, vlD1⟩, rfl, hs9, hl9, b9, ha9⟩
   obtain ⟨pD1, mD1, cD1, e1⟩ := hl9.1.form
   obtain ⟨pqD1, mqD1, cqD1, e2⟩ := hl9.2.1.form
   obtain ⟨pvD1, mvD1, cvD1, e3⟩ := hl9.2.2.form
   simp only at e1 e2 e3
   subst e1 e2 e3
   have T27 : Hid (Z26.heap.size ≤ Z27.heap.size) := b9.size
   have Hnew := Lib.hid (Md.new hs9 hl9 ha9)
   have HB := Lib.hid (HB.out.trans (b9.mono HB.out.size))
   have HE2 := Lib.hid (HE2.out.later b9)
   have HM1 := Hnew
   clear Hnew hs9 hl9 ha9 b9
   simp only [EntD.cells]
   go_wp2_with fail
   refine hK.out _ _ ⟨fun _ => HB.out, ?_⟩
   have hHeld := HB.out
   clear hK
   try simp only [Act.put, List.setIfInBounds_toArray, List.set_cons_zero, List.set_cons_succ]
   refine AnyE.twoF (i := 3) (j := 4) rfl rfl (by kernel_rfl) (by kernel_rfl) (by kernel_rfl) (fun KK hK => ?_) (fun KK hK => ?_)
   ·go_simp
    go_at_call 6
    refine (HEn.out _ HB.out).mono ?_
    rintro e9 Z28 ⟨⟨vr, fmD2, vq, tsD2, sqD2, kdD2, vv, rwD2, qlD2, vlD2⟩, rfl, hs9, hl9, b9, ha9⟩
    obtain ⟨pD2, mD2, cD2, e1⟩ := hl9.1.form
    obtain ⟨pqD2, mqD2, cqD2, e2⟩ := hl9.2.1.form
    obtain ⟨pvD2, mvD2, cvD2, e3⟩ := hl9.2.2.form
    simp only at e1 e2 e3
    subst e1 e2 e3
    have T28 : Hid (Z27.heap.size ≤ Z28.heap.size) := b9.size
    have Hnew := Lib.hid (Md.new hs9 hl9 ha9)
    have HB := Lib.hid (HB.out.trans (b9.mono HB.out.size))
    have HM1 := Lib.hid (HM1.out.later b9)
    have HE2 := Lib.hid (HE2.out.later b9)
    have HM2 := Hnew
    clear Hnew hs9 hl9 ha9 b9
    simp only [EntD.cells]
    go_wp2_with fail
    refine hK.out _ _ ⟨fun _ => HB.out, ?_⟩
    have hHeld := HB.out
    clear hK
    try simp only [Act.put, List.setIfInBounds_toArray, List.set_cons_zero, List.set_cons_succ]
    refine AnyE.one (i := 4) rfl (by kernel_rfl) (by kernel_rfl) (fun KK hK => ?_)
    go_simp
    have bA := (Below.refl Z28.heap.size Z28).alloc (Nat.le_refl _) (.cells #[.slice none 0 0, .int .i64 0, .slice none 0 0, .int .i64 0, .int .i64 0, .int .i64 0, .slice none 0 0] 38)
    have eA : EBox (Z28.alloc (.cells #[.slice none 0 0, .int .i64 0, .slice none 0 0, .int .i64 0, .int .i64 0, .int .i64 0, .slice none 0 0] 38)) Z28.heap.size zeroD := EBox.new Z28 zeroD
    have tA : (Z28.alloc (.cells #[.slice none 0 0, .int .i64 0, .slice none 0 0, .int .i64 0, .int .i64 0, .int .i64 0, .slice none 0 0] 38)).heap.size = Z28.heap.size + 1 := by simp
    obtain ⟨Z29, hZ⟩ : ∃ z, z = Z28.alloc (.cells #[.slice none 0 0, .int .i64 0, .slice none 0 0, .int .i64 0, .int .i64 0, .int .i64 0, .slice none 0 0] 38) := ⟨_, rfl⟩
    rw [← hZ] at bA eA tA ⊢
    clear hZ
    have T29 := Lib.hid tA
    have HB := Lib.hid (HB.out.trans (bA.mono HB.out.size))
    have HM1 := Lib.hid (HM1.out.later bA)
    have HM2 := Lib.hid (HM2.out.later bA)
    have HE2 := Lib.hid (HE2.out.later bA)
    have HE1 := Lib.hid eA
    clear bA eA tA
    refine hK.out _ _ ⟨fun _ => HB.out, ?_⟩
    have hHeld := HB.out
    clear hK
    try simp only [Act.put, List.setIfInBounds_toArray, List.set_cons_zero, List.set_cons_succ]
    have HPr := Lib.hid (pair_of HB.out HM1.out HM2.out HE1.out HE2.out (by have h0 := HB0.out; have q26 := T26.out; have q27 := T27.out; have q28 := T28.out; have q29 := T29.out; omega) (by have h0 := HB0.out; have q26 := T26.out; have q27 := T27.out; have q28 := T28.out; have q29 := T29.out; omega) (by have h0 := HB0.out; have q26 := T26.out; have q27 := T27.out; have q28 := T28.out; have q29 := T29.out; omega) (by have h0 := HB0.out; have q26 := T26.out; have q27 := T27.out; have q28 := T28.out; have q29 := T29.out; omega) (by have h0 := HB0.out; have q26 := T26.out; have q27 := T27.out; have q28 := T28.out; have q29 := T29.out; omega))
    have hb1 : wr.heap.size ≤ Z28.heap.size := by have h0 := HB0.out; have q26 := T26.out; have q27 := T27.out; have q28 := T28.out; have q29 := T29.out; omega
    have hb2 : wr.heap.size ≤ Z0.heap.size := by have h0 := HB0.out; have q26 := T26.out; have q27 := T27.out; have q28 := T28.out; have q29 := T29.out; omega
    have hne : Z0.heap.size ≠ Z28.heap.size := by have h0 := HB0.out; have q26 := T26.out; have q27 := T27.out; have q28 := T28.out; have q29 := T29.out; omega
    have HS1 := Lib.hid (below_filled HB.out hb1 (EntD.mk (.slice pD1 mD1 cD1) fmD1 (.slice pqD1 mqD1 cqD1) tsD1 sqD1 kdD1 (.slice pvD1 mvD1 cvD1) rwD1 qlD1 vlD1))
    have HS2 := Lib.hid (below_filled HS1.out hb2 (EntD.mk (.slice pD2 mD2 cD2) fmD2 (.slice pqD2 mqD2 cqD2) tsD2 sqD2 kdD2 (.slice pvD2 mvD2 cvD2) rwD2 qlD2 vlD2))
    have HE3 := Lib.hid (show EBox (filled Z29 (Z28.heap.size) (EntD.mk (.slice pD1 mD1 cD1) fmD1 (.slice pqD1 mqD1 cqD1) tsD1 sqD1 kdD1 (.slice pvD1 mvD1 cvD1) rwD1 qlD1 vlD1)) (Z0.heap.size) zeroD from ((filled_fb Z29 (Z28.heap.size) (EntD.mk (.slice pD1 mD1 cD1) fmD1 (.slice pqD1 mqD1 cqD1) tsD1 sqD1 kdD1 (.slice pvD1 mvD1 cvD1) rwD1 qlD1 vlD1)).block _ (Array.getElem?_eq_some_iff.1 HE2.out).1 hne).trans HE2.out)
    obtain ⟨z0, z1, z2, z3, z4, z5, z6⟩ := HE1.out.cells7
    obtain ⟨f0, f1, f2, f3, f4, f5, f6⟩ := HE1.out.fz7
    simp only [zeroD] at z0 z1 z2 z3 z4 z5 z6
    obtain ⟨y0, y1, y2, y3, y4, y5, y6⟩ := HE3.out.cells7
    obtain ⟨g0, g1, g2, g3, g4, g5, g6⟩ := HE3.out.fz7
    simp only [zeroD, filled] at y0 y1 y2 y3 y4 y5 y6 g0 g1 g2 g3 g4 g5 g6
    clear hHeld hb1 hb2 hne
    refine AnyE.one (i := 6) rfl (by kernel_rfl) (by kernel_rfl) (fun KK hK => ?_)
    go_simp
    refine hK.out _ _ ⟨fun _ => HS1.out, ?_⟩
    clear hK z0 z1 z2 z3 z4 z5 z6 f0 f1 f2 f3 f4 f5 f6
    try simp only [Act.put, List.setIfInBounds_toArray, List.set_cons_zero, List.set_cons_succ]
    refine AnyE.one (i := 7) rfl (by kernel_rfl) (by kernel_rfl) (fun KK hK => ?_)
    go_simp
    refine hK.out _ _ ⟨fun _ => HS2.out, ?_⟩
    clear hK
    refine AnyE.done (by kernel_rfl) (NoPanic.normal ?_) _
    exact hQ.out _ _ _ _ _ HPr.out
   ·go_simp
    have bA := (Below.refl Z27.heap.size Z27).alloc (Nat.le_refl _) (.cells #[.slice none 0 0, .int .i64 0, .slice none 0 0, .int .i64 0, .int .i64 0, .int .i64 0, .slice none 0 0] 38)
    have eA : EBox (Z27.alloc (.cells #[.slice none 0 0, .int .i64 0, .slice none 0 0, .int .i64 0, .int .i64 0, .int .i64 0, .slice none 0 0] 38)) Z27.heap.size zeroD := EBox.new Z27 zeroD
    have tA : (Z27.alloc (.cells #[.slice none 0 0, .int .i64 0, .slice none 0 0, .int .i64 0, .int .i64 0, .int .i64 0, .slice none 0 0] 38)).heap.size = Z27.heap.size + 1 := by simp
    obtain ⟨Z30, hZ⟩ : ∃ z, z = Z27.alloc (.cells #[.slice none 0 0, .int .i64 0, .slice none 0 0, .int .i64 0, .int .i64 0, .int .i64 0, .slice none 0 0] 38) := ⟨_, rfl⟩
    rw [← hZ] at bA eA tA ⊢
    clear hZ
    have T30 := Lib.hid tA
    have HB := Lib.hid (HB.out.trans (bA.mono HB.out.size))
    have HM1 := Lib.hid (HM1.out.later bA)
    have HE2 := Lib.hid (HE2.out.later bA)
    have HE1 := Lib.hid eA
    clear bA eA tA
    refine hK.out _ _ ⟨fun _ => HB.out, ?_⟩
    have hHeld := HB.out
    clear hK
    try simp only [Act.put, List.setIfInBounds_toArray, List.set_cons_zero, List.set_cons_succ]
    refine AnyE.one (i := 3) rfl (by kernel_rfl) (by kernel_rfl) (fun KK hK => ?_)
    go_simp
    go_at_call 6
    refine (HEn.out _ HB.out).mono ?_
    rintro e9 Z31 ⟨⟨vr, fmD2, vq, tsD2, sqD2, kdD2, vv, rwD2, qlD2, vlD2⟩, rfl, hs9, hl9, b9, ha9⟩
    obtain ⟨pD2, mD2, cD2, e1⟩ := hl9.1.form
    obtain ⟨pqD2, mqD2, cqD2, e2⟩ := hl9.2.1.form
    obtain ⟨pvD2, mvD2, cvD2, e3⟩ := hl9.2.2.form
    simp only at e1 e2 e3
    subst e1 e2 e3
    have T31 : Hid (Z30.heap.size ≤ Z31.heap.size) := b9.size
    have Hnew := Lib.hid (Md.new hs9 hl9 ha9)
    have HB := Lib.hid (HB.out.trans (b9.mono HB.out.size))
    have HM1 := Lib.hid (HM1.out.later b9)
    have HE1 := Lib.hid (HE1.out.later b9)
    have HE2 := Lib.hid (HE2.out.later b9)
    have HM2 := Hnew
    clear Hnew hs9 hl9 ha9 b9
    simp only [EntD.cells]
    go_wp2_with fail
    refine hK.out _ _ ⟨fun _ => HB.out, ?_⟩
    have hHeld := HB.out
    clear hK
    try simp only [Act.put, List.setIfInBounds_toArray, List.set_cons_zero, List.set_cons_succ]
    have HPr := Lib.hid (pair_of HB.out HM1.out HM2.out HE1.out HE2.out (by have h0 := HB0.out; have q26 := T26.out; have q27 := T27.out; have q30 := T30.out; have q31 := T31.out; omega) (by have h0 := HB0.out; have q26 := T26.out; have q27 := T27.out; have q30 := T30.out; have q31 := T31.out; omega) (by have h0 := HB0.out; have q26 := T26.out; have q27 := T27.out; have q30 := T30.out; have q31 := T31.out; omega) (by have h0 := HB0.out; have q26 := T26.out; have q27 := T27.out; have q30 := T30.out; have q31 := T31.out; omega) (by have h0 := HB0.out; have q26 := T26.out; have q27 := T27.out; have q30 := T30.out; have q31 := T31.out; omega))
    have hb1 : wr.heap.size ≤ Z27.heap.size := by have h0 := HB0.out; have q26 := T26.out; have q27 := T27.out; have q30 := T30.out; have q31 := T31.out; omega
    have hb2 : wr.heap.size ≤ Z0.heap.size := by have h0 := HB0.out; have q26 := T26.out; have q27 := T27.out; have q30 := T30.out; have q31 := T31.out; omega
    have hne : Z0.heap.size ≠ Z27.heap.size := by have h0 := HB0.out; have q26 := T26.out; have q27 := T27.out; have q30 := T30.out; have q31 := T31.out; omega
    have HS1 := Lib.hid (below_filled HB.out hb1 (EntD.mk (.slice pD1 mD1 cD1) fmD1 (.slice pqD1 mqD1 cqD1) tsD1 sqD1 kdD1 (.slice pvD1 mvD1 cvD1) rwD1 qlD1 vlD1))
    have HS2 := Lib.hid (below_filled HS1.out hb2 (EntD.mk (.slice pD2 mD2 cD2) fmD2 (.slice pqD2 mqD2 cqD2) tsD2 sqD2 kdD2 (.slice pvD2 mvD2 cvD2) rwD2 qlD2 vlD2))
    have HE3 := Lib.hid (show EBox (filled Z31 (Z27.heap.size) (EntD.mk (.slice pD1 mD1 cD1) fmD1 (.slice pqD1 mqD1 cqD1) tsD1 sqD1 kdD1 (.slice pvD1 mvD1 cvD1) rwD1 qlD1 vlD1)) (Z0.heap.size) zeroD from ((filled_fb Z31 (Z27.heap.size) (EntD.mk (.slice pD1 mD1 cD1) fmD1 (.slice pqD1 mqD1 cqD1) tsD1 sqD1 kdD1 (.slice pvD1 mvD1 cvD1) rwD1 qlD1 vlD1)).block _ (Array.getElem?_eq_some_iff.1 HE2.out).1 hne).trans HE2.out)
    obtain ⟨z0, z1, z2, z3, z4, z5, z6⟩ := HE1.out.cells7
    obtain ⟨f0, f1, f2, f3, f4, f5, f6⟩ := HE1.out.fz7
    simp only [zeroD] at z0 z1 z2 z3 z4 z5 z6
    obtain ⟨y0, y1, y2, y3, y4, y5, y6⟩ := HE3.out.cells7
    obtain ⟨g0, g1, g2, g3, g4, g5, g6⟩ := HE3.out.fz7
    simp only [zeroD, filled] at y0 y1 y2 y3 y4 y5 y6 g0 g1 g2 g3 g4 g5 g6
    clear hHeld hb1 hb2 hne
    refine AnyE.one (i := 6) rfl (by kernel_rfl) (by kernel_rfl) (fun KK hK => ?_)
    go_simp
    refine hK.out _ _ ⟨fun _ => HS1.out, ?_⟩
    clear hK z0 z1 z2 z3 z4 z5 z6 f0 f1 f2 f3 f4 f5 f6
    try simp only [Act.put, List.setIfInBounds_toArray, List.set_cons_zero, List.set_cons_succ]
    refine AnyE.one (i := 7) rfl (by kernel_rfl) (by kernel_rfl) (fun KK hK => ?_)
    go_simp
    refine hK.out _ _ ⟨fun _ => HS2.out, ?_⟩
    clear hK
    refine AnyE.done (by kernel_rfl) (NoPanic.normal ?_) _
    exact hQ.out _ _ _ _ _ HPr.out
  ·go_simp
   have bA := (Below.refl Z26.heap.size Z26).alloc (Nat.le_refl _) (.cells #[.slice none 0 0, .int .i64 0, .slice none 0 0, .int .i64 0, .int .i64 0, .int .i64 0, .slice none 0 0] 38)
   have eA : EBox (Z26.alloc (.cells #[.slice none 0 0, .int .i64 0, .slice none 0 0, .int .i64 0, .int .i64 0, .int .i64 0, .slice none 0 0] 38)) Z26.heap.size zeroD := EBox.new Z26 zeroD
   have tA : (Z26.alloc (.cells #[.slice none 0 0, .int .i64 0, .slice none 0 0, .int .i64 0, .int .i64 0, .int .i64 0, .slice none 0 0] 38)).heap.size = Z26.heap.size + 1 := by simp
   obtain ⟨Z32, hZ⟩ : ∃ z, z = Z26.alloc (.cells #[.slice none 0 0, .int .i64 0, .slice none 0 0, .int .i64 0, .int .i64 0, .int .i64 0, .slice none 0 0] 38) := ⟨_, rfl⟩
   rw [← hZ] at bA eA tA ⊢
   clear hZ
   have T32 := Lib.hid tA
   have HB := Lib.hid (HB.out.trans (bA.mono HB.out.size))
   have HE2 := Lib.hid (HE2.out.later bA)
   have HE1 := Lib.hid eA
   clear bA eA tA
   refine hK.out _ _ ⟨fun _ => HB.out, ?_⟩
   have hHeld := HB.out
   clear hK
   try simp only [Act.put, List.setIfInBounds_toArray, List.set_cons_zero, List.set_cons_succ]
   refine AnyE.one (i := 1) rfl (by kernel_rfl) (by kernel_rfl) (fun KK hK => ?_)
   go_simp
   go_at_call 6
   refine (HEn.out _ HB.out).mono ?_
   rintro e9 Z33 ⟨⟨vr, fmD1, vq, tsD1, sqD1, kdD1, vv, rwD1, qlD1, vlD1⟩, rfl, hs9, hl9, b9, ha9⟩
   obtain ⟨pD1, mD1, cD1, e1⟩ := hl9.1.form
   obtain ⟨pqD1, mqD1, cqD1, e2⟩ := hl9.2.1.form
   obtain ⟨pvD1, mvD1, cvD1, e3⟩ := hl9.2.2.form
   simp only at e1 e2 e3
   subst e1 e2 e3
   have T33 : Hid (Z32.heap.size ≤ Z33.heap.size) := b9.size
   have Hnew := Lib.hid (Md.new hs9 hl9 ha9)
   have HB := Lib.hid (HB.out.trans (b9.mono HB.out.size))
   have HE1 := Lib.hid (HE1.out.later b9)
   have HE2 := Lib.hid (HE2.out.later b9)
   have HM1 := Hnew
   clear Hnew hs9 hl9 ha9 b9
   simp only [EntD.cells]
   go_wp2_with fail
   refine hK.out _ _ ⟨fun _ => HB.out, ?_⟩
   have hHeld := HB.out
   clear hK
   try simp only [Act.put, List.setIfInBounds_toArray, List.set_cons_zero, List.set_cons_succ]
   refine AnyE.one (i := 3) rfl (by kernel_rfl) (by kernel_rfl) (fun KK hK => ?_)
   go_simp
   go_at_call 6
   refine (HEn.out _ HB.out).mono ?_
   rintro e9 Z34 ⟨⟨vr, fmD2, vq, tsD2, sqD2, kdD2, vv, rwD2, qlD2, vlD2⟩, rfl, hs9, hl9, b9, ha9⟩
   obtain ⟨pD2, mD2, cD2, e1⟩ := hl9.1.form
   obtain ⟨pqD2, mqD2, cqD2, e2⟩ := hl9.2.1.form
   obtain ⟨pvD2, mvD2, cvD2, e3⟩ := hl9.2.2.form
   simp only at e1 e2 e3
   subst e1 e2 e3
   have T34 : Hid (Z33.heap.size ≤ Z34.heap.size) := b9.size
   have Hnew := Lib.hid (Md.new hs9 hl9 ha9)
   have HB := Lib.hid (HB.out.trans (b9.mono HB.out.size))
   have HM1 := Lib.hid (HM1.out.later b9)
   have HE1 := Lib.hid (HE1.out.later b9)
   have HE2 := Lib.hid (HE2.out.later b9)
   have HM2 := Hnew
   clear Hnew hs9 hl9 ha9 b9
   simp only [EntD.cells]
   go_wp2_with fail
   refine hK.out _ _ ⟨fun _ => HB.out, ?_⟩
   have hHeld := HB.out
   clear hK
   try simp only [Act.put, List.setIfInBounds_toArray, List.set_cons_zero, List.set_cons_succ]
   have HPr := Lib.hid (pair_of HB.out HM1.out HM2.out HE1.out HE2.out (by have h0 := HB0.out; have q26 := T26.out; have q32 := T32.out; have q33 := T33.out; have q34 := T34.out; omega) (by have h0 := HB0.out; have q26 := T26.out; have q32 := T32.out; have q33 := T33.out; have q34 := T34.out; omega) (by have h0 := HB0.out; have q26 := T26.out; have q32 := T32.out; have q33 := T33.out; have q34 := T34.out; omega) (by have h0 := HB0.out; have q26 := T26.out; have q32 := T32.out; have q33 := T33.out; have q34 := T34.out; omega) (by have h0 := HB0.out; have q26 := T26.out; have q32 := T32.out; have q33 := T33.out; have q34 := T34.out; omega))
   have hb1 : wr.heap.size ≤ Z26.heap.size := by have h0 := HB0.out; have q26 := T26.out; have q32 := T32.out; have q33 := T33.out; have q34 := T34.out; omega
   have hb2 : wr.heap.size ≤ Z0.heap.size := by have h0 := HB0.out; have q26 := T26.out; have q32 := T32.out; have q33 := T33.out; have q34 := T34.out; omega
   have hne : Z0.heap.size ≠ Z26.heap.size := by have h0 := HB0.out; have q26 := T26.out; have q32 := T32.out; have q33 := T33.out; have q34 := T34.out; omega
   have HS1 := Lib.hid (below_filled HB.out hb1 (EntD.mk (.slice pD1 mD1 cD1) fmD1 (.slice pqD1 mqD1 cqD1) tsD1 sqD1 kdD1 (.slice pvD1 mvD1 cvD1) rwD1 qlD1 vlD1))
   have HS2 := Lib.hid (below_filled HS1.out hb2 (EntD.mk (.slice pD2 mD2 cD2) fmD2 (.slice pqD2 mqD2 cqD2) tsD2 sqD2 kdD2 (.slice pvD2 mvD2 cvD2) rwD2 qlD2 vlD2))
   have HE3 := Lib.hid (show EBox (filled Z34 (Z26.heap.size) (EntD.mk (.slice pD1 mD1 cD1) fmD1 (.slice pqD1 mqD1 cqD1) tsD1 sqD1 kdD1 (.slice pvD1 mvD1 cvD1) rwD1 qlD1 vlD1)) (Z0.heap.size) zeroD from ((filled_fb Z34 (Z26.heap.size) (EntD.mk (.slice pD1 mD1 cD1) fmD1 (.slice pqD1 mqD1 cqD1) tsD1 sqD1 kdD1 (.slice pvD1 mvD1 cvD1) rwD1 qlD1 vlD1)).block _ (Array.getElem?_eq_some_iff.1 HE2.out).1 hne).trans HE2.out)
   obtain ⟨z0, z1, z2, z3, z4, z5, z6⟩ := HE1.out.cells7
   obtain ⟨f0, f1, f2, f3, f4, f5, f6⟩ := HE1.out.fz7
   simp only [zeroD] at z0 z1 z2 z3 z4 z5 z6
   obtain ⟨y0, y1, y2, y3, y4, y5, y6⟩ := HE3.out.cells7
   obtain ⟨g0, g1, g2, g3, g4, g5, g6⟩ := HE3.out.fz7
   simp only [zeroD, filled] at y0 y1 y2 y3 y4 y5 y6 g0 g1 g2 g3 g4 g5 g6
   clear hHeld hb1 hb2 hne
   refine AnyE.one (i := 6) rfl (by kernel_rfl) (by kernel_rfl) (fun KK hK => ?_)
   go_simp
   refine hK.out _ _ ⟨fun _ => HS1.out, ?_⟩
   clear hK z0 z1 z2 z3 z4 z5 z6 f0 f1 f2 f3 f4 f5 f6
   try simp only [Act.put, List.setIfInBounds_toArray, List.set_cons_zero, List.set_cons_succ]
   refine AnyE.one (i := 7) rfl (by kernel_rfl) (by kernel_rfl) (fun KK hK => ?_)
   go_simp
   refine hK.out _ _ ⟨fun _ => HS2.out, ?_⟩
   clear hK
   refine AnyE.done (by kernel_rfl) (NoPanic.normal ?_) _
   exact hQ.out _ _ _ _ _ HPr.out
end Go.Proofs.YtpabbnddeklpdaaGreat
