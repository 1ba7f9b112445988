import Derived.Test.YtchebhafabhabaaGreatDoorK21
namespace Go.Proofs.YtchebhafabhabaaGreatDoor
open Go.RowKit Go.Shelf
set_option linter.unusedVariables false
set_option linter.unusedSimpArgs false
attribute [local go_sem] Oper.semAt_some

theorem below_filled {wr Z : World} {b : Nat} (h : Below wr.heap.size wr Z) (hb : wr.heap.size ≤ b) (D : EntD) : Below wr.heap.size wr (filled Z b D) := by
 have f := filled_fb Z b D
 exact h.trans ⟨f.os, f.tape, f.output, f.size, fun k hk => f.block k (Nat.lt_of_lt_of_le hk h.size) (fun e => by omega)⟩
def bb19Ops : Array Oper := #[{ dst := some 108, op := Op.move (Operand.tmp 2), type := 22, pos := "law.go:209", after := #[], guard := none }, { dst := some 109, op := Op.move (Operand.tmp 15), type := 3, pos := "law.go:209", after := #[], guard := none }, { dst := some 110, op := Op.indexAddr 22 (Operand.tmp 108) (Operand.tmp 109), type := 0, pos := "law.go:209", after := #[{ on := 0, ground := Ground.data }, { on := 1, ground := Ground.data }], guard := none }, { dst := some 111, op := Op.load 40 (Operand.tmp 110), type := 40, pos := "law.go:209", after := #[{ on := 2, ground := Ground.data }], guard := none }, { dst := some 112, op := Op.call { callee := Callee.value (Operand.func 10), args := #[Operand.tmp 111], argTypes := #[40] }, type := 40, pos := "law.go:209", after := #[{ on := 3, ground := Ground.data }], guard := none }, { dst := some 113, op := Op.move (Operand.tmp 2), type := 22, pos := "law.go:209", after := #[], guard := none }, { dst := some 114, op := Op.move (Operand.tmp 15), type := 3, pos := "law.go:209", after := #[], guard := none }, { dst := some 115, op := Op.indexAddr 22 (Operand.tmp 113) (Operand.tmp 114), type := 0, pos := "law.go:209", after := #[{ on := 5, ground := Ground.data }, { on := 6, ground := Ground.data }], guard := none }, { dst := some 116, op := Op.load 40 (Operand.tmp 115), type := 40, pos := "law.go:209", after := #[{ on := 7, ground := Ground.data }], guard := none }, { dst := some 117, op := Op.call { callee := Callee.value (Operand.func 10), args := #[Operand.tmp 116], argTypes := #[40] }, type := 40, pos := "law.go:209", after := #[{ on := 8, ground := Ground.data }, { on := 4, ground := Ground.chain }], guard := none }, { dst := some 17, op := Op.alloc 40, type := 0, pos := "law.go:209", after := #[], guard := none }, { dst := some 18, op := Op.alloc 40, type := 0, pos := "law.go:209", after := #[], guard := none }, { dst := none, op := Op.store 40 (Operand.tmp 17) (Operand.tmp 112), type := 0, pos := "law.go:209", after := #[{ on := 10, ground := Ground.data }, { on := 4, ground := Ground.data }, { on := 9, ground := Ground.chain }, { on := 0, ground := Ground.phase }, { on := 1, ground := Ground.phase }, { on := 2, ground := Ground.phase }, { on := 3, ground := Ground.phase }, { on := 4, ground := Ground.phase }, { on := 5, ground := Ground.textOnly Departure.lateStores }, { on := 6, ground := Ground.textOnly Departure.lateStores }, { on := 7, ground := Ground.textOnly Departure.lateStores }, { on := 8, ground := Ground.textOnly Departure.lateStores }, { on := 9, ground := Ground.textOnly Departure.lateStoresUnsure }, { on := 10, ground := Ground.phase }, { on := 11, ground := Ground.phase }], guard := none }, { dst := none, op := Op.store 40 (Operand.tmp 18) (Operand.tmp 117), type := 0, pos := "law.go:209", after := #[{ on := 11, ground := Ground.data }, { on := 9, ground := Ground.data }, { on := 12, ground := Ground.chain }, { on := 0, ground := Ground.phase }, { on := 1, ground := Ground.phase }, { on := 2, ground := Ground.phase }, { on := 3, ground := Ground.phase }, { on := 4, ground := Ground.phase }, { on := 5, ground := Ground.phase }, { on := 6, ground := Ground.phase }, { on := 7, ground := Ground.phase }, { on := 8, ground := Ground.phase }, { on := 9, ground := Ground.phase }, { on := 10, ground := Ground.phase }, { on := 11, ground := Ground.phase }, { on := 12, ground := Ground.phase }], guard := none }]
set_option maxRecDepth 100000 in
set_option maxHeartbeats 16000000 in
theorem bb19_region {wr : World} {x : EntD} {b off N cap k : Nat} {Q : Exit → Act → World → Prop} {s0 s1 s3 s4 s5 s6 s7 s8 s9 s10 s11 s12 s13 s14 s16 s17 s18 s19 s20 s21 s22 s23 s24 s25 s26 s27 s28 s29 s30 s31 s32 s33 s34 s35 s36 s37 s38 s39 s40 s41 s42 s43 s44 s45 s46 s47 s48 s49 s50 s51 s52 s53 s54 s55 s56 s57 s58 s59 s60 s61 s62 s63 s64 s65 s66 s67 s68 s69 s70 s71 s72 s73 s74 s75 s76 s77 s78 s79 s80 s81 s82 s83 s84 s85 s86 s87 s88 s89 s90 s91 s92 s93 s94 s95 s96 s97 s98 s99 s100 s101 s102 s103 s104 s105 s106 s107 s108 s109 s110 s111 s112 s113 s114 s115 s116 s117 s118 s119 s120 s121 s122 s123 s124 s125 s126 s127 s128 s129 s130 s131 s132 s133 s134 s135 s136 s137 s138 s139 s140 s141 s142 s143 s144 s145 s146 s147 s148 s149 s150 s151 s152 s153 s154 s155 s156 s157 s158 s159 s160 s161 s162 s163 s164 s165 s166 s167 s168 s169 s170 s171 s172 s173 s174 s175 s176 s177 s178 s179 s180 s181 s182 s183 s184 s185 s186 s187 s188 s189 s190 s191 s192 s193 s194 s195 s196 s197 s198 s199 s200 s201 s202 s203 s204 s205 : Value} (hok : EntD.Ok wr x) (hlt : k < N) (hDc : wr.cell? ⟨b, off + k * 7, none⟩ = some (x.vr) ∧ wr.cell? ⟨b, off + k * 7 + 1, none⟩ = some (.int .i64 x.fam) ∧ wr.cell? ⟨b, off + k * 7 + 2, none⟩ = some (x.vq) ∧ wr.cell? ⟨b, off + k * 7 + 3, none⟩ = some (.int .i64 x.ts) ∧ wr.cell? ⟨b, off + k * 7 + 4, none⟩ = some (.int .i64 x.seq) ∧ wr.cell? ⟨b, off + k * 7 + 5, none⟩ = some (.int .i64 x.kind) ∧ wr.cell? ⟨b, off + k * 7 + 6, none⟩ = some (x.vv))
  (hQ : Hid (∀ (D1 D2 : EntD) (b1 b2 : Nat) (Z : World), Pair wr Z x D1 D2 b1 b2 → Q .normal (⟨#[s0, s1, .slice (some ⟨b, off, none⟩) N cap, s3, s4, s5, s6, s7, s8, s9, s10, s11, s12, s13, s14, .int .i64 (k : Int), s16, .pointer (some ⟨b1, 0, none⟩), .pointer (some ⟨b2, 0, none⟩), s19, s20, s21, s22, s23, s24, s25, s26, s27, s28, s29, s30, s31, s32, s33, s34, s35, s36, s37, s38, s39, s40, s41, s42, s43, s44, s45, s46, s47, s48, s49, s50, s51, s52, s53, s54, s55, s56, s57, s58, s59, s60, s61, s62, s63, s64, s65, s66, s67, s68, s69, s70, s71, s72, s73, s74, s75, s76, s77, s78, s79, s80, s81, s82, s83, s84, s85, s86, s87, s88, s89, s90, s91, s92, s93, s94, s95, s96, s97, s98, s99, s100, s101, s102, s103, s104, s105, s106, s107, .slice (some ⟨b, off, none⟩) N cap, .int .i64 (k : Int), .pointer (some ⟨b, off + k * 7, none⟩), .agg #[x.vr, .int .i64 x.fam, x.vq, .int .i64 x.ts, .int .i64 x.seq, .int .i64 x.kind, x.vv], .agg #[D1.vr, .int .i64 D1.fam, D1.vq, .int .i64 D1.ts, .int .i64 D1.seq, .int .i64 D1.kind, D1.vv], .slice (some ⟨b, off, none⟩) N cap, .int .i64 (k : Int), .pointer (some ⟨b, off + k * 7, none⟩), .agg #[x.vr, .int .i64 x.fam, x.vq, .int .i64 x.ts, .int .i64 x.seq, .int .i64 x.kind, x.vv], .agg #[D2.vr, .int .i64 D2.fam, D2.vq, .int .i64 D2.ts, .int .i64 D2.seq, .int .i64 D2.kind, D2.vv], s118, s119, s120, s121, s122, s123, s124, s125, s126, s127, s128, s129, s130, s131, s132, s133, s134, s135, s136, s137, s138, s139, s140, s141, s142, s143, s144, s145, s146, s147, s148, s149, s150, s151, s152, s153, s154, s155, s156, s157, s158, s159, s160, s161, s162, s163, s164, s165, s166, s167, s168, s169, s170, s171, s172, s173, s174, s175, s176, s177, s178, s179, s180, s181, s182, s183, s184, s185, s186, s187, s188, s189, s190, s191, s192, s193, s194, s195, s196, s197, s198, s199, s200, s201, s202, s203, s204, s205], []⟩ : Act) Z)) : Code.wp Tryz.prog (Code.region 19 bb19Ops true) Q (⟨#[s0, s1, .slice (some ⟨b, off, none⟩) N cap, s3, s4, s5, s6, s7, s8, s9, s10, s11, s12, s13, s14, .int .i64 (k : Int), s16, s17, s18, s19, s20, s21, s22, s23, s24, s25, s26, s27, s28, s29, s30, s31, s32, s33, s34, s35, s36, s37, s38, s39, s40, s41, s42, s43, s44, s45, s46, s47, s48, s49, s50, s51, s52, s53, s54, s55, s56, s57, s58, s59, s60, s61, s62, s63, s64, s65, s66, s67, s68, s69, s70, s71, s72, s73, s74, s75, s76, s77, s78, s79, s80, s81, s82, s83, s84, s85, s86, s87, s88, s89, s90, s91, s92, s93, s94, s95, s96, s97, s98, s99, s100, s101, s102, s103, s104, s105, s106, s107, s108, s109, s110, s111, s112, s113, s114, s115, s116, s117, s118, s119, s120, s121, s122, s123, s124, s125, s126, s127, s128, s129, s130, s131, s132, s133, s134, s135, s136, s137, s138, s139, s140, s141, s142, s143, s144, s145, s146, s147, s148, s149, s150, s151, s152, s153, s154, s155, s156, s157, s158, s159, s160, s161, s162, s163, s164, s165, s166, s167, s168, s169, s170, s171, s172, s173, s174, s175, s176, s177, s178, s179, s180, s181, s182, s183, s184, s185, s186, s187, s188, s189, s190, s191, s192, s193, s194, s195, s196, s197, s198, s199, s200, s201, s202, s203, s204, s205], []⟩ : Act) wr := by
 have hlt2 : (k : Int) < (N : Int) := by omega
 have k0 : (0 : Int) ≤ (k : Int) := by omega
 have HDc := Lib.hid hDc
 have HEn : Hid (∀ Z, Below wr.heap.size wr Z → Calls Tryz.prog 10 #[.agg #[x.vr, .int .i64 x.fam, x.vq, .int .i64 x.ts, .int .i64 x.seq, .int .i64 x.kind, x.vv]] Z fun r w' => ∃ D : EntD, r = .returned (.agg D.cells) ∧ EntD.Same D x.cut ∧ LaidE w' Z.heap.size D ∧ Below Z.heap.size Z w' ∧ ApE D) := fun Z bz => entry5_any (hok.later bz)
 clear hok hDc
 unfold bb19Ops
 have BD : Below wr.heap.size wr wr.drew := (Below.refl _ _).drew
 refine wp_region_noPanic ?_
 refine wp_region_anyE (S := fun wx => Below wr.heap.size wr wx) (E := fun _ => true) (by kernel_rfl) ?_
 have hHeld : Below wr.heap.size wr wr.drew := BD
 have HB0 := Lib.hid BD.size
 have HB := Lib.hid BD
 obtain ⟨Z0, hZ0⟩ : ∃ z, z = wr.drew := ⟨_, rfl⟩
 rw [← hZ0] at HB HB0 hHeld ⊢
 clear hZ0 BD
 refine AnyE.take (i := 0) (.slice (some ⟨b, off, none⟩) N cap) rfl (by kernel_rfl) (by kernel_rfl) (by kernel_rfl) (by kernel_rfl) (fun _ _ _ h => h) (.inl ⟨by kernel_rfl, fun wy hy => by (go_simp; done)⟩) hHeld ?_
 try simp only [Act.put, List.setIfInBounds_toArray, List.set_cons_zero, List.set_cons_succ]
 refine AnyE.take (i := 1) (.int .i64 (k : Int)) rfl (by kernel_rfl) (by kernel_rfl) (by kernel_rfl) (by kernel_rfl) (fun _ _ _ h => h) (.inl ⟨by kernel_rfl, fun wy hy => by (go_simp; done)⟩) hHeld ?_
 try simp only [Act.put, List.setIfInBounds_toArray, List.set_cons_zero, List.set_cons_succ]
 refine AnyE.take (i := 2) (.pointer (some ⟨b, off + k * 7, none⟩)) rfl (by kernel_rfl) (by kernel_rfl) (by kernel_rfl) (by kernel_rfl) (fun _ _ _ h => h) (.inl ⟨by kernel_rfl, fun wy hy => by (go_simp; done)⟩) hHeld ?_
 try simp only [Act.put, List.setIfInBounds_toArray, List.set_cons_zero, List.set_cons_succ]
 refine AnyE.take (i := 3) (.agg #[x.vr, .int .i64 x.fam, x.vq, .int .i64 x.ts, .int .i64 x.seq, .int .i64 x.kind, x.vv]) rfl (by kernel_rfl) (by kernel_rfl) (by kernel_rfl) (by kernel_rfl) (fun _ _ _ h => h) (.inl ⟨by kernel_rfl, fun wy hy => by (have c0 := (hy.cell (p := ⟨b, off + k * 7, none⟩) (World.block_lt_of_cell? _ _ HDc.out.1)).trans HDc.out.1; have c1 := (hy.cell (p := ⟨b, off + k * 7 + 1, none⟩) (World.block_lt_of_cell? _ _ HDc.out.2.1)).trans HDc.out.2.1; have c2 := (hy.cell (p := ⟨b, off + k * 7 + 2, none⟩) (World.block_lt_of_cell? _ _ HDc.out.2.2.1)).trans HDc.out.2.2.1; have c3 := (hy.cell (p := ⟨b, off + k * 7 + 3, none⟩) (World.block_lt_of_cell? _ _ HDc.out.2.2.2.1)).trans HDc.out.2.2.2.1; have c4 := (hy.cell (p := ⟨b, off + k * 7 + 4, none⟩) (World.block_lt_of_cell? _ _ HDc.out.2.2.2.2.1)).trans HDc.out.2.2.2.2.1; have c5 := (hy.cell (p := ⟨b, off + k * 7 + 5, none⟩) (World.block_lt_of_cell? _ _ HDc.out.2.2.2.2.2.1)).trans HDc.out.2.2.2.2.2.1; have c6 := (hy.cell (p := ⟨b, off + k * 7 + 6, none⟩) (World.block_lt_of_cell? _ _ HDc.out.2.2.2.2.2.2)).trans HDc.out.2.2.2.2.2.2; go_simp; done)⟩) hHeld ?_
 try simp only [Act.put, List.setIfInBounds_toArray, List.set_cons_zero, List.set_cons_succ]
 refine AnyE.take (i := 5) (.slice (some ⟨b, off, none⟩) N cap) rfl (by kernel_rfl) (by kernel_rfl) (by kernel_rfl) (by kernel_rfl) (fun _ _ _ h => h) (.inl ⟨by kernel_rfl, fun wy hy => by (go_simp; done)⟩) hHeld ?_
 try simp only [Act.put, List.setIfInBounds_toArray, List.set_cons_zero, List.set_cons_succ]
 refine AnyE.take (i := 6) (.int .i64 (k : Int)) rfl (by kernel_rfl) (by kernel_rfl) (by kernel_rfl) (by kernel_rfl) (fun _ _ _ h => h) (.inl ⟨by kernel_rfl, fun wy hy => by (go_simp; done)⟩) hHeld ?_
 try simp only [Act.put, List.setIfInBounds_toArray, List.set_cons_zero, List.set_cons_succ]
 refine AnyE.take (i := 7) (.pointer (some ⟨b, off + k * 7, none⟩)) rfl (by kernel_rfl) (by kernel_rfl) (by kernel_rfl) (by kernel_rfl) (fun _ _ _ h => h) (.inl ⟨by kernel_rfl, fun wy hy => by (go_simp; done)⟩) hHeld ?_
 try simp only [Act.put, List.setIfInBounds_toArray, List.set_cons_zero, List.set_cons_succ]
 refine AnyE.take (i := 8) (.agg #[x.vr, .int .i64 x.fam, x.vq, .int .i64 x.ts, .int .i64 x.seq, .int .i64 x.kind, x.vv]) rfl (by kernel_rfl) (by kernel_rfl) (by kernel_rfl) (by kernel_rfl) (fun _ _ _ h => h) (.inl ⟨by kernel_rfl, fun wy hy => by (have c0 := (hy.cell (p := ⟨b, off + k * 7, none⟩) (World.block_lt_of_cell? _ _ HDc.out.1)).trans HDc.out.1; have c1 := (hy.cell (p := ⟨b, off + k * 7 + 1, none⟩) (World.block_lt_of_cell? _ _ HDc.out.2.1)).trans HDc.out.2.1; have c2 := (hy.cell (p := ⟨b, off + k * 7 + 2, none⟩) (World.block_lt_of_cell? _ _ HDc.out.2.2.1)).trans HDc.out.2.2.1; have c3 := (hy.cell (p := ⟨b, off + k * 7 + 3, none⟩) (World.block_lt_of_cell? _ _ HDc.out.2.2.2.1)).trans HDc.out.2.2.2.1; have c4 := (hy.cell (p := ⟨b, off + k * 7 + 4, none⟩) (World.block_lt_of_cell? _ _ HDc.out.2.2.2.2.1)).trans HDc.out.2.2.2.2.1; have c5 := (hy.cell (p := ⟨b, off + k * 7 + 5, none⟩) (World.block_lt_of_cell? _ _ HDc.out.2.2.2.2.2.1)).trans HDc.out.2.2.2.2.2.1; have c6 := (hy.cell (p := ⟨b, off + k * 7 + 6, none⟩) (World.block_lt_of_cell? _ _ HDc.out.2.2.2.2.2.2)).trans HDc.out.2.2.2.2.2.2; go_simp; done)⟩) hHeld ?_
 try simp only [Act.put, List.setIfInBounds_toArray, List.set_cons_zero, List.set_cons_succ]
 refine AnyE.threeF (i := 4) (j := 10) (m := 11) rfl rfl rfl (by kernel_rfl) (by kernel_rfl) (by kernel_rfl) (by kernel_rfl) (fun KK hK => ?_) (fun KK hK => ?_) (fun KK hK => ?_)
 ·go_simp
  go_at_call 10
  refine (HEn.out _ HB.out).mono ?_
  rintro e9 Z1 ⟨⟨vr, fmD1, vq, tsD1, sqD1, kdD1, vv, rwD1, qlD1, vlD1⟩, rfl, hs9, hl9, b9, ha9⟩
  obtain ⟨pD1, mD1, cD1, e1⟩ := hl9.1.form
  obtain ⟨pqD1, mqD1, cqD1, e2⟩ := hl9.2.1.form
  obtain ⟨pvD1, mvD1, cvD1, e3⟩ := hl9.2.2.form
  simp only at e1 e2 e3
  subst e1 e2 e3
  have T1 : Hid (Z0.heap.size ≤ Z1.heap.size) := b9.size
  have Hnew := Lib.hid (Md.new hs9 hl9 ha9)
  have HB := Lib.hid (HB.out.trans (b9.mono HB.out.size))
  have HM1 := Hnew
  clear Hnew hs9 hl9 ha9 b9
  simp only [EntD.cells]
  go_wp2_with fail
  refine hK.out _ _ ⟨fun _ => HB.out, ?_⟩
  have hHeld := HB.out
  clear hK
  try simp only [Act.put, List.setIfInBounds_toArray, List.set_cons_zero, List.set_cons_succ]
  refine AnyE.threeF (i := 9) (j := 10) (m := 11) rfl rfl rfl (by kernel_rfl) (by kernel_rfl) (by kernel_rfl) (by kernel_rfl) (fun KK hK => ?_) (fun KK hK => ?_) (fun KK hK => ?_)
  ·go_simp
   go_at_call 10
   refine (HEn.out _ HB.out).mono ?_
   rintro e9 Z2 ⟨⟨vr, fmD2, vq, tsD2, sqD2, kdD2, vv, rwD2, qlD2, vlD2⟩, rfl, hs9, hl9, b9, ha9⟩
   obtain ⟨pD2, mD2, cD2, e1⟩ := hl9.1.form
   obtain ⟨pqD2, mqD2, cqD2, e2⟩ := hl9.2.1.form
   obtain ⟨pvD2, mvD2, cvD2, e3⟩ := hl9.2.2.form
   simp only at e1 e2 e3
   subst e1 e2 e3
   have T2 : Hid (Z1.heap.size ≤ Z2.heap.size) := b9.size
   have Hnew := Lib.hid (Md.new hs9 hl9 ha9)
   have HB := Lib.hid (HB.out.trans (b9.mono HB.out.size))
   have HM1 := Lib.hid (HM1.out.later b9)
   have HM2 := Hnew
   clear Hnew hs9 hl9 ha9 b9
   simp only [EntD.cells]
   go_wp2_with fail
   refine hK.out _ _ ⟨fun _ => HB.out, ?_⟩
   have hHeld := HB.out
   clear hK
   try simp only [Act.put, List.setIfInBounds_toArray, List.set_cons_zero, List.set_cons_succ]
   refine AnyE.twoF (i := 10) (j := 11) rfl rfl (by kernel_rfl) (by kernel_rfl) (by kernel_rfl) (fun KK hK => ?_) (fun KK hK => ?_)
   ·go_simp
    have bA := (Below.refl Z2.heap.size Z2).alloc (Nat.le_refl _) (.cells #[.slice none 0 0, .int .i64 0, .slice none 0 0, .int .i64 0, .int .i64 0, .int .i64 0, .slice none 0 0] 40)
    have eA : EBox (Z2.alloc (.cells #[.slice none 0 0, .int .i64 0, .slice none 0 0, .int .i64 0, .int .i64 0, .int .i64 0, .slice none 0 0] 40)) Z2.heap.size zeroD := EBox.new Z2 zeroD
    have tA : (Z2.alloc (.cells #[.slice none 0 0, .int .i64 0, .slice none 0 0, .int .i64 0, .int .i64 0, .int .i64 0, .slice none 0 0] 40)).heap.size = Z2.heap.size + 1 := by simp
    obtain ⟨Z3, hZ⟩ : ∃ z, z = Z2.alloc (.cells #[.slice none 0 0, .int .i64 0, .slice none 0 0, .int .i64 0, .int .i64 0, .int .i64 0, .slice none 0 0] 40) := ⟨_, rfl⟩
    rw [← hZ] at bA eA tA ⊢
    clear hZ
    have T3 := Lib.hid tA
    have HB := Lib.hid (HB.out.trans (bA.mono HB.out.size))
    have HM1 := Lib.hid (HM1.out.later bA)
    have HM2 := Lib.hid (HM2.out.later bA)
    have HE1 := Lib.hid eA
    clear bA eA tA
    refine hK.out _ _ ⟨fun _ => HB.out, ?_⟩
    have hHeld := HB.out
    clear hK
    try simp only [Act.put, List.setIfInBounds_toArray, List.set_cons_zero, List.set_cons_succ]
    refine AnyE.one (i := 11) rfl (by kernel_rfl) (by kernel_rfl) (fun KK hK => ?_)
    go_simp
    have bA := (Below.refl Z3.heap.size Z3).alloc (Nat.le_refl _) (.cells #[.slice none 0 0, .int .i64 0, .slice none 0 0, .int .i64 0, .int .i64 0, .int .i64 0, .slice none 0 0] 40)
    have eA : EBox (Z3.alloc (.cells #[.slice none 0 0, .int .i64 0, .slice none 0 0, .int .i64 0, .int .i64 0, .int .i64 0, .slice none 0 0] 40)) Z3.heap.size zeroD := EBox.new Z3 zeroD
    have tA : (Z3.alloc (.cells #[.slice none 0 0, .int .i64 0, .slice none 0 0, .int .i64 0, .int .i64 0, .int .i64 0, .slice none 0 0] 40)).heap.size = Z3.heap.size + 1 := by simp
    obtain ⟨Z4, hZ⟩ : ∃ z, z = Z3.alloc (.cells #[.slice none 0 0, .int .i64 0, .slice none 0 0, .int .i64 0, .int .i64 0, .int .i64 0, .slice none 0 0] 40) := ⟨_, rfl⟩
    rw [← hZ] at bA eA tA ⊢
    clear hZ
    have T4 := Lib.hid tA
    have HB := Lib.hid (HB.out.trans (bA.mono HB.out.size))
    have HM1 := Lib.hid (HM1.out.later bA)
    have HM2 := Lib.hid (HM2.out.later bA)
    have HE1 := Lib.hid (HE1.out.later bA)
    have HE2 := Lib.hid eA
    clear bA eA tA
    refine hK.out _ _ ⟨fun _ => HB.out, ?_⟩
    have hHeld := HB.out
    clear hK
    try simp only [Act.put, List.setIfInBounds_toArray, List.set_cons_zero, List.set_cons_succ]
    have HPr := Lib.hid (pair_of HB.out HM1.out HM2.out HE1.out HE2.out (by have h0 := HB0.out; have q1 := T1.out; have q2 := T2.out; have q3 := T3.out; have q4 := T4.out; omega) (by have h0 := HB0.out; have q1 := T1.out; have q2 := T2.out; have q3 := T3.out; have q4 := T4.out; omega) (by have h0 := HB0.out; have q1 := T1.out; have q2 := T2.out; have q3 := T3.out; have q4 := T4.out; omega) (by have h0 := HB0.out; have q1 := T1.out; have q2 := T2.out; have q3 := T3.out; have q4 := T4.out; omega) (by have h0 := HB0.out; have q1 := T1.out; have q2 := T2.out; have q3 := T3.out; have q4 := T4.out; omega))
    have hb1 : wr.heap.size ≤ Z2.heap.size := by have h0 := HB0.out; have q1 := T1.out; have q2 := T2.out; have q3 := T3.out; have q4 := T4.out; omega
    have hb2 : wr.heap.size ≤ Z3.heap.size := by have h0 := HB0.out; have q1 := T1.out; have q2 := T2.out; have q3 := T3.out; have q4 := T4.out; omega
    have hne : Z3.heap.size ≠ Z2.heap.size := by have h0 := HB0.out; have q1 := T1.out; have q2 := T2.out; have q3 := T3.out; have q4 := T4.out; omega
    have HS1 := Lib.hid (below_filled HB.out hb1 (EntD.mk (.slice pD1 mD1 cD1) fmD1 (.slice pqD1 mqD1 cqD1) tsD1 sqD1 kdD1 (.slice pvD1 mvD1 cvD1) rwD1 qlD1 vlD1))
    have HS2 := Lib.hid (below_filled HS1.out hb2 (EntD.mk (.slice pD2 mD2 cD2) fmD2 (.slice pqD2 mqD2 cqD2) tsD2 sqD2 kdD2 (.slice pvD2 mvD2 cvD2) rwD2 qlD2 vlD2))
    have HE3 := Lib.hid (show EBox (filled Z4 (Z2.heap.size) (EntD.mk (.slice pD1 mD1 cD1) fmD1 (.slice pqD1 mqD1 cqD1) tsD1 sqD1 kdD1 (.slice pvD1 mvD1 cvD1) rwD1 qlD1 vlD1)) (Z3.heap.size) zeroD from ((filled_fb Z4 (Z2.heap.size) (EntD.mk (.slice pD1 mD1 cD1) fmD1 (.slice pqD1 mqD1 cqD1) tsD1 sqD1 kdD1 (.slice pvD1 mvD1 cvD1) rwD1 qlD1 vlD1)).block _ (Array.getElem?_eq_some_iff.1 HE2.out).1 hne).trans HE2.out)
    obtain ⟨z0, z1, z2, z3, z4, z5, z6⟩ := HE1.out.cells7
    obtain ⟨f0, f1, f2, f3, f4, f5, f6⟩ := HE1.out.fz7
    simp only [zeroD] at z0 z1 z2 z3 z4 z5 z6
    obtain ⟨y0, y1, y2, y3, y4, y5, y6⟩ := HE3.out.cells7
    obtain ⟨g0, g1, g2, g3, g4, g5, g6⟩ := HE3.out.fz7
    simp only [zeroD, filled] at y0 y1 y2 y3 y4 y5 y6 g0 g1 g2 g3 g4 g5 g6
    clear hHeld hb1 hb2 hne
    refine AnyE.one (i := 12) rfl (by kernel_rfl) (by kernel_rfl) (fun KK hK => ?_)
    go_simp
    refine hK.out _ _ ⟨fun _ => HS1.out, ?_⟩
    clear hK z0 z1 z2 z3 z4 z5 z6 f0 f1 f2 f3 f4 f5 f6
    try simp only [Act.put, List.setIfInBounds_toArray, List.set_cons_zero, List.set_cons_succ]
    refine AnyE.one (i := 13) rfl (by kernel_rfl) (by kernel_rfl) (fun KK hK => ?_)
    go_simp
    refine hK.out _ _ ⟨fun _ => HS2.out, ?_⟩
    clear hK
    refine AnyE.done (by kernel_rfl) (NoPanic.normal ?_) _
    exact hQ.out _ _ _ _ _ HPr.out
   ·go_simp
    have bA := (Below.refl Z2.heap.size Z2).alloc (Nat.le_refl _) (.cells #[.slice none 0 0, .int .i64 0, .slice none 0 0, .int .i64 0, .int .i64 0, .int .i64 0, .slice none 0 0] 40)
    have eA : EBox (Z2.alloc (.cells #[.slice none 0 0, .int .i64 0, .slice none 0 0, .int .i64 0, .int .i64 0, .int .i64 0, .slice none 0 0] 40)) Z2.heap.size zeroD := EBox.new Z2 zeroD
    have tA : (Z2.alloc (.cells #[.slice none 0 0, .int .i64 0, .slice none 0 0, .int .i64 0, .int .i64 0, .int .i64 0, .slice none 0 0] 40)).heap.size = Z2.heap.size + 1 := by simp
    obtain ⟨Z5, hZ⟩ : ∃ z, z = Z2.alloc (.cells #[.slice none 0 0, .int .i64 0, .slice none 0 0, .int .i64 0, .int .i64 0, .int .i64 0, .slice none 0 0] 40) := ⟨_, rfl⟩
    rw [← hZ] at bA eA tA ⊢
    clear hZ
    have T5 := Lib.hid tA
    have HB := Lib.hid (HB.out.trans (bA.mono HB.out.size))
    have HM1 := Lib.hid (HM1.out.later bA)
    have HM2 := Lib.hid (HM2.out.later bA)
    have HE2 := Lib.hid eA
    clear bA eA tA
    refine hK.out _ _ ⟨fun _ => HB.out, ?_⟩
    have hHeld := HB.out
    clear hK
    try simp only [Act.put, List.setIfInBounds_toArray, List.set_cons_zero, List.set_cons_succ]
    refine AnyE.one (i := 10) rfl (by kernel_rfl) (by kernel_rfl) (fun KK hK => ?_)
    go_simp
    have bA := (Below.refl Z5.heap.size Z5).alloc (Nat.le_refl _) (.cells #[.slice none 0 0, .int .i64 0, .slice none 0 0, .int .i64 0, .int .i64 0, .int .i64 0, .slice none 0 0] 40)
    have eA : EBox (Z5.alloc (.cells #[.slice none 0 0, .int .i64 0, .slice none 0 0, .int .i64 0, .int .i64 0, .int .i64 0, .slice none 0 0] 40)) Z5.heap.size zeroD := EBox.new Z5 zeroD
    have tA : (Z5.alloc (.cells #[.slice none 0 0, .int .i64 0, .slice none 0 0, .int .i64 0, .int .i64 0, .int .i64 0, .slice none 0 0] 40)).heap.size = Z5.heap.size + 1 := by simp
    obtain ⟨Z6, hZ⟩ : ∃ z, z = Z5.alloc (.cells #[.slice none 0 0, .int .i64 0, .slice none 0 0, .int .i64 0, .int .i64 0, .int .i64 0, .slice none 0 0] 40) := ⟨_, rfl⟩
    rw [← hZ] at bA eA tA ⊢
    clear hZ
    have T6 := Lib.hid tA
    have HB := Lib.hid (HB.out.trans (bA.mono HB.out.size))
    have HM1 := Lib.hid (HM1.out.later bA)
    have HM2 := Lib.hid (HM2.out.later bA)
    have HE2 := Lib.hid (HE2.out.later bA)
    have HE1 := Lib.hid eA
    clear bA eA tA
    refine hK.out _ _ ⟨fun _ => HB.out, ?_⟩
    have hHeld := HB.out
    clear hK
    try simp only [Act.put, List.setIfInBounds_toArray, List.set_cons_zero, List.set_cons_succ]
    have HPr := Lib.hid (pair_of HB.out HM1.out HM2.out HE1.out HE2.out (by have h0 := HB0.out; have q1 := T1.out; have q2 := T2.out; have q5 := T5.out; have q6 := T6.out; omega) (by have h0 := HB0.out; have q1 := T1.out; have q2 := T2.out; have q5 := T5.out; have q6 := T6.out; omega) (by have h0 := HB0.out; have q1 := T1.out; have q2 := T2.out; have q5 := T5.out; have q6 := T6.out; omega) (by have h0 := HB0.out; have q1 := T1.out; have q2 := T2.out; have q5 := T5.out; have q6 := T6.out; omega) (by have h0 := HB0.out; have q1 := T1.out; have q2 := T2.out; have q5 := T5.out; have q6 := T6.out; omega))
    have hb1 : wr.heap.size ≤ Z5.heap.size := by have h0 := HB0.out; have q1 := T1.out; have q2 := T2.out; have q5 := T5.out; have q6 := T6.out; omega
    have hb2 : wr.heap.size ≤ Z2.heap.size := by have h0 := HB0.out; have q1 := T1.out; have q2 := T2.out; have q5 := T5.out; have q6 := T6.out; omega
    have hne : Z2.heap.size ≠ Z5.heap.size := by have h0 := HB0.out; have q1 := T1.out; have q2 := T2.out; have q5 := T5.out; have q6 := T6.out; omega
    have HS1 := Lib.hid (below_filled HB.out hb1 (EntD.mk (.slice pD1 mD1 cD1) fmD1 (.slice pqD1 mqD1 cqD1) tsD1 sqD1 kdD1 (.slice pvD1 mvD1 cvD1) rwD1 qlD1 vlD1))
    have HS2 := Lib.hid (below_filled HS1.out hb2 (EntD.mk (.slice pD2 mD2 cD2) fmD2 (.slice pqD2 mqD2 cqD2) tsD2 sqD2 kdD2 (.slice pvD2 mvD2 cvD2) rwD2 qlD2 vlD2))
    have HE3 := Lib.hid (show EBox (filled Z6 (Z5.heap.size) (EntD.mk (.slice pD1 mD1 cD1) fmD1 (.slice pqD1 mqD1 cqD1) tsD1 sqD1 kdD1 (.slice pvD1 mvD1 cvD1) rwD1 qlD1 vlD1)) (Z2.heap.size) zeroD from ((filled_fb Z6 (Z5.heap.size) (EntD.mk (.slice pD1 mD1 cD1) fmD1 (.slice pqD1 mqD1 cqD1) tsD1 sqD1 kdD1 (.slice pvD1 mvD1 cvD1) rwD1 qlD1 vlD1)).block _ (Array.getElem?_eq_some_iff.1 HE2.out).1 hne).trans HE2.out)
    obtain ⟨z0, z1, z2, z3, z4, z5, z6⟩ := HE1.out.cells7
    obtain ⟨f0, f1, f2, f3, f4, f5, f6⟩ := HE1.out.fz7
    simp only [zeroD] at z0 z1 z2 z3 z4 z5 z6
    obtain ⟨y0, y1, y2, y3, y4, y5, y6⟩ := HE3.out.cells7
    obtain ⟨g0, g1, g2, g3, g4, g5, g6⟩ := HE3.out.fz7
    simp only [zeroD, filled] at y0 y1 y2 y3 y4 y5 y6 g0 g1 g2 g3 g4 g5 g6
    clear hHeld hb1 hb2 hne
    refine AnyE.one (i := 12) rfl (by kernel_rfl) (by kernel_rfl) (fun KK hK => ?_)
    go_simp
    refine hK.out _ _ ⟨fun _ => HS1.out, ?_⟩
    clear hK z0 z1 z2 z3 z4 z5 z6 f0 f1 f2 f3 f4 f5 f6
    try simp only [Act.put, List.setIfInBounds_toArray, List.set_cons_zero, List.set_cons_succ]
    refine AnyE.one (i := 13) rfl (by kernel_rfl) (by kernel_rfl) (fun KK hK => ?_)
    go_simp
    refine hK.out _ _ ⟨fun _ => HS2.out, ?_⟩
    clear hK
    refine AnyE.done (by kernel_rfl) (NoPanic.normal ?_) _
    exact hQ.out _ _ _ _ _ HPr.out
  ·go_simp
   have bA := (Below.refl Z1.heap.size Z1).alloc (Nat.le_refl _) (.cells #[.slice none 0 0, .int .i64 0, .slice none 0 0, .int .i64 0, .int .i64 0, .int .i64 0, .slice none 0 0] 40)
   have eA : EBox (Z1.alloc (.cells #[.slice none 0 0, .int .i64 0, .slice none 0 0, .int .i64 0, .int .i64 0, .int .i64 0, .slice none 0 0] 40)) Z1.heap.size zeroD := EBox.new Z1 zeroD
   have tA : (Z1.alloc (.cells #[.slice none 0 0, .int .i64 0, .slice none 0 0, .int .i64 0, .int .i64 0, .int .i64 0, .slice none 0 0] 40)).heap.size = Z1.heap.size + 1 := by simp
   obtain ⟨Z7, hZ⟩ : ∃ z, z = Z1.alloc (.cells #[.slice none 0 0, .int .i64 0, .slice none 0 0, .int .i64 0, .int .i64 0, .int .i64 0, .slice none 0 0] 40) := ⟨_, rfl⟩
   rw [← hZ] at bA eA tA ⊢
   clear hZ
   have T7 := Lib.hid tA
   have HB := Lib.hid (HB.out.trans (bA.mono HB.out.size))
   have HM1 := Lib.hid (HM1.out.later bA)
   have HE1 := Lib.hid eA
   clear bA eA tA
   refine hK.out _ _ ⟨fun _ => HB.out, ?_⟩
   have hHeld := HB.out
   clear hK
   try simp only [Act.put, List.setIfInBounds_toArray, List.set_cons_zero, List.set_cons_succ]
   refine AnyE.twoF (i := 9) (j := 11) rfl rfl (by kernel_rfl) (by kernel_rfl) (by kernel_rfl) (fun KK hK => ?_) (fun KK hK => ?_)
   ·go_simp
    go_at_call 10
    refine (HEn.out _ HB.out).mono ?_
    rintro e9 Z8 ⟨⟨vr, fmD2, vq, tsD2, sqD2, kdD2, vv, rwD2, qlD2, vlD2⟩, rfl, hs9, hl9, b9, ha9⟩
    obtain ⟨pD2, mD2, cD2, e1⟩ := hl9.1.form
    obtain ⟨pqD2, mqD2, cqD2, e2⟩ := hl9.2.1.form
    obtain ⟨pvD2, mvD2, cvD2, e3⟩ := hl9.2.2.form
    simp only at e1 e2 e3
    subst e1 e2 e3
    have T8 : Hid (Z7.heap.size ≤ Z8.heap.size) := b9.size
    have Hnew := Lib.hid (Md.new hs9 hl9 ha9)
    have HB := Lib.hid (HB.out.trans (b9.mono HB.out.size))
    have HM1 := Lib.hid (HM1.out.later b9)
    have HE1 := Lib.hid (HE1.out.later b9)
    have HM2 := Hnew
    clear Hnew hs9 hl9 ha9 b9
    simp only [EntD.cells]
    go_wp2_with fail
    refine hK.out _ _ ⟨fun _ => HB.out, ?_⟩
    have hHeld := HB.out
    clear hK
    try simp only [Act.put, List.setIfInBounds_toArray, List.set_cons_zero, List.set_cons_succ]
    refine AnyE.one (i := 11) rfl (by kernel_rfl) (by kernel_rfl) (fun KK hK => ?_)
    go_simp
    have bA := (Below.refl Z8.heap.size Z8).alloc (Nat.le_refl _) (.cells #[.slice none 0 0, .int .i64 0, .slice none 0 0, .int .i64 0, .int .i64 0, .int .i64 0, .slice none 0 0] 40)
    have eA : EBox (Z8.alloc (.cells #[.slice none 0 0, .int .i64 0, .slice none 0 0, .int .i64 0, .int .i64 0, .int .i64 0, .slice none 0 0] 40)) Z8.heap.size zeroD := EBox.new Z8 zeroD
    have tA : (Z8.alloc (.cells #[.slice none 0 0, .int .i64 0, .slice none 0 0, .int .i64 0, .int .i64 0, .int .i64 0, .slice none 0 0] 40)).heap.size = Z8.heap.size + 1 := by simp
    obtain ⟨Z9, hZ⟩ : ∃ z, z = Z8.alloc (.cells #[.slice none 0 0, .int .i64 0, .slice none 0 0, .int .i64 0, .int .i64 0, .int .i64 0, .slice none 0 0] 40) := ⟨_, rfl⟩
    rw [← hZ] at bA eA tA ⊢
    clear hZ
    have T9 := Lib.hid tA
    have HB := Lib.hid (HB.out.trans (bA.mono HB.out.size))
    have HM1 := Lib.hid (HM1.out.later bA)
    have HM2 := Lib.hid (HM2.out.later bA)
    have HE1 := Lib.hid (HE1.out.later bA)
    have HE2 := Lib.hid eA
    clear bA eA tA
    refine hK.out _ _ ⟨fun _ => HB.out, ?_⟩
    have hHeld := HB.out
    clear hK
    try simp only [Act.put, List.setIfInBounds_toArray, List.set_cons_zero, List.set_cons_succ]
    have HPr := Lib.hid (pair_of HB.out HM1.out HM2.out HE1.out HE2.out (by have h0 := HB0.out; have q1 := T1.out; have q7 := T7.out; have q8 := T8.out; have q9 := T9.out; omega) (by have h0 := HB0.out; have q1 := T1.out; have q7 := T7.out; have q8 := T8.out; have q9 := T9.out; omega) (by have h0 := HB0.out; have q1 := T1.out; have q7 := T7.out; have q8 := T8.out; have q9 := T9.out; omega) (by have h0 := HB0.out; have q1 := T1.out; have q7 := T7.out; have q8 := T8.out; have q9 := T9.out; omega) (by have h0 := HB0.out; have q1 := T1.out; have q7 := T7.out; have q8 := T8.out; have q9 := T9.out; omega))
    have hb1 : wr.heap.size ≤ Z1.heap.size := by have h0 := HB0.out; have q1 := T1.out; have q7 := T7.out; have q8 := T8.out; have q9 := T9.out; omega
    have hb2 : wr.heap.size ≤ Z8.heap.size := by have h0 := HB0.out; have q1 := T1.out; have q7 := T7.out; have q8 := T8.out; have q9 := T9.out; omega
    have hne : Z8.heap.size ≠ Z1.heap.size := by have h0 := HB0.out; have q1 := T1.out; have q7 := T7.out; have q8 := T8.out; have q9 := T9.out; omega
    have HS1 := Lib.hid (below_filled HB.out hb1 (EntD.mk (.slice pD1 mD1 cD1) fmD1 (.slice pqD1 mqD1 cqD1) tsD1 sqD1 kdD1 (.slice pvD1 mvD1 cvD1) rwD1 qlD1 vlD1))
    have HS2 := Lib.hid (below_filled HS1.out hb2 (EntD.mk (.slice pD2 mD2 cD2) fmD2 (.slice pqD2 mqD2 cqD2) tsD2 sqD2 kdD2 (.slice pvD2 mvD2 cvD2) rwD2 qlD2 vlD2))
    have HE3 := Lib.hid (show EBox (filled Z9 (Z1.heap.size) (EntD.mk (.slice pD1 mD1 cD1) fmD1 (.slice pqD1 mqD1 cqD1) tsD1 sqD1 kdD1 (.slice pvD1 mvD1 cvD1) rwD1 qlD1 vlD1)) (Z8.heap.size) zeroD from ((filled_fb Z9 (Z1.heap.size) (EntD.mk (.slice pD1 mD1 cD1) fmD1 (.slice pqD1 mqD1 cqD1) tsD1 sqD1 kdD1 (.slice pvD1 mvD1 cvD1) rwD1 qlD1 vlD1)).block _ (Array.getElem?_eq_some_iff.1 HE2.out).1 hne).trans HE2.out)
    obtain ⟨z0, z1, z2, z3, z4, z5, z6⟩ := HE1.out.cells7
    obtain ⟨f0, f1, f2, f3, f4, f5, f6⟩ := HE1.out.fz7
    simp only [zeroD] at z0 z1 z2 z3 z4 z5 z6
    obtain ⟨y0, y1, y2, y3, y4, y5, y6⟩ := HE3.out.cells7
    obtain ⟨g0, g1, g2, g3, g4, g5, g6⟩ := HE3.out.fz7
    simp only [zeroD, filled] at y0 y1 y2 y3 y4 y5 y6 g0 g1 g2 g3 g4 g5 g6
    clear hHeld hb1 hb2 hne
    refine AnyE.one (i := 12) rfl (by kernel_rfl) (by kernel_rfl) (fun KK hK => ?_)
    go_simp
    refine hK.out _ _ ⟨fun _ => HS1.out, ?_⟩
    clear hK z0 z1 z2 z3 z4 z5 z6 f0 f1 f2 f3 f4 f5 f6
    try simp only [Act.put, List.setIfInBounds_toArray, List.set_cons_zero, List.set_cons_succ]
    refine AnyE.one (i := 13) rfl (by kernel_rfl) (by kernel_rfl) (fun KK hK => ?_)
    go_simp
    refine hK.out _ _ ⟨fun _ => HS2.out, ?_⟩
    clear hK
    refine AnyE.done (by kernel_rfl) (NoPanic.normal ?_) _
    exact hQ.out _ _ _ _ _ HPr.out
   ·go_simp
    have bA := (Below.refl Z7.heap.size Z7).alloc (Nat.le_refl _) (.cells #[.slice none 0 0, .int .i64 0, .slice none 0 0, .int .i64 0, .int .i64 0, .int .i64 0, .slice none 0 0] 40)
    have eA : EBox (Z7.alloc (.cells #[.slice none 0 0, .int .i64 0, .slice none 0 0, .int .i64 0, .int .i64 0, .int .i64 0, .slice none 0 0] 40)) Z7.heap.size zeroD := EBox.new Z7 zeroD
    have tA : (Z7.alloc (.cells #[.slice none 0 0, .int .i64 0, .slice none 0 0, .int .i64 0, .int .i64 0, .int .i64 0, .slice none 0 0] 40)).heap.size = Z7.heap.size + 1 := by simp
    obtain ⟨Z10, hZ⟩ : ∃ z, z = Z7.alloc (.cells #[.slice none 0 0, .int .i64 0, .slice none 0 0, .int .i64 0, .int .i64 0, .int .i64 0, .slice none 0 0] 40) := ⟨_, rfl⟩
    rw [← hZ] at bA eA tA ⊢
    clear hZ
    have T10 := Lib.hid tA
    have HB := Lib.hid (HB.out.trans (bA.mono HB.out.size))
    have HM1 := Lib.hid (HM1.out.later bA)
    have HE1 := Lib.hid (HE1.out.later bA)
    have HE2 := Lib.hid eA
    clear bA eA tA
    refine hK.out _ _ ⟨fun _ => HB.out, ?_⟩
    have hHeld := HB.out
    clear hK
    try simp only [Act.put, List.setIfInBounds_toArray, List.set_cons_zero, List.set_cons_succ]
    refine AnyE.one (i := 9) rfl (by kernel_rfl) (by kernel_rfl) (fun KK hK => ?_)
    go_simp
    go_at_call 10
    refine (HEn.out _ HB.out).mono ?_
    rintro e9 Z11 ⟨⟨vr, fmD2, vq, tsD2, sqD2, kdD2, vv, rwD2, qlD2, vlD2⟩, rfl, hs9, hl9, b9, ha9⟩
    obtain ⟨pD2, mD2, cD2, e1⟩ := hl9.1.form
    obtain ⟨pqD2, mqD2, cqD2, e2⟩ := hl9.2.1.form
    obtain ⟨pvD2, mvD2, cvD2, e3⟩ := hl9.2.2.form
    simp only at e1 e2 e3
    subst e1 e2 e3
    have T11 : Hid (Z10.heap.size ≤ Z11.heap.size) := b9.size
    have Hnew := Lib.hid (Md.new hs9 hl9 ha9)
    have HB := Lib.hid (HB.out.trans (b9.mono HB.out.size))
    have HM1 := Lib.hid (HM1.out.later b9)
    have HE1 := Lib.hid (HE1.out.later b9)
    have HE2 := Lib.hid (HE2.out.later b9)
    have HM2 := Hnew
    clear Hnew hs9 hl9 ha9 b9
    simp only [EntD.cells]
    go_wp2_with fail
    refine hK.out _ _ ⟨fun _ => HB.out, ?_⟩
    have hHeld := HB.out
    clear hK
    try simp only [Act.put, List.setIfInBounds_toArray, List.set_cons_zero, List.set_cons_succ]
    have HPr := Lib.hid (pair_of HB.out HM1.out HM2.out HE1.out HE2.out (by have h0 := HB0.out; have q1 := T1.out; have q7 := T7.out; have q10 := T10.out; have q11 := T11.out; omega) (by have h0 := HB0.out; have q1 := T1.out; have q7 := T7.out; have q10 := T10.out; have q11 := T11.out; omega) (by have h0 := HB0.out; have q1 := T1.out; have q7 := T7.out; have q10 := T10.out; have q11 := T11.out; omega) (by have h0 := HB0.out; have q1 := T1.out; have q7 := T7.out; have q10 := T10.out; have q11 := T11.out; omega) (by have h0 := HB0.out; have q1 := T1.out; have q7 := T7.out; have q10 := T10.out; have q11 := T11.out; omega))
    have hb1 : wr.heap.size ≤ Z1.heap.size := by have h0 := HB0.out; have q1 := T1.out; have q7 := T7.out; have q10 := T10.out; have q11 := T11.out; omega
    have hb2 : wr.heap.size ≤ Z7.heap.size := by have h0 := HB0.out; have q1 := T1.out; have q7 := T7.out; have q10 := T10.out; have q11 := T11.out; omega
    have hne : Z7.heap.size ≠ Z1.heap.size := by have h0 := HB0.out; have q1 := T1.out; have q7 := T7.out; have q10 := T10.out; have q11 := T11.out; omega
    have HS1 := Lib.hid (below_filled HB.out hb1 (EntD.mk (.slice pD1 mD1 cD1) fmD1 (.slice pqD1 mqD1 cqD1) tsD1 sqD1 kdD1 (.slice pvD1 mvD1 cvD1) rwD1 qlD1 vlD1))
    have HS2 := Lib.hid (below_filled HS1.out hb2 (EntD.mk (.slice pD2 mD2 cD2) fmD2 (.slice pqD2 mqD2 cqD2) tsD2 sqD2 kdD2 (.slice pvD2 mvD2 cvD2) rwD2 qlD2 vlD2))
    have HE3 := Lib.hid (show EBox (filled Z11 (Z1.heap.size) (EntD.mk (.slice pD1 mD1 cD1) fmD1 (.slice pqD1 mqD1 cqD1) tsD1 sqD1 kdD1 (.slice pvD1 mvD1 cvD1) rwD1 qlD1 vlD1)) (Z7.heap.size) zeroD from ((filled_fb Z11 (Z1.heap.size) (EntD.mk (.slice pD1 mD1 cD1) fmD1 (.slice pqD1 mqD1 cqD1) tsD1 sqD1 kdD1 (.slice pvD1 mvD1 cvD1) rwD1 qlD1 vlD1)).block _ (Array.getElem?_eq_some_iff.1 HE2.out).1 hne).trans HE2.out)
    obtain ⟨z0, z1, z2, z3, z4, z5, z6⟩ := HE1.out.cells7
    obtain ⟨f0, f1, f2, f3, f4, f5, f6⟩ := HE1.out.fz7
    simp only [zeroD] at z0 z1 z2 z3 z4 z5 z6
    obtain ⟨y0, y1, y2, y3, y4, y5, y6⟩ := HE3.out.cells7
    obtain ⟨g0, g1, g2, g3, g4, g5, g6⟩ := HE3.out.fz7
    simp only [zeroD, filled] at y0 y1 y2 y3 y4 y5 y6 g0 g1 g2 g3 g4 g5 g6
    clear hHeld hb1 hb2 hne
    refine AnyE.one (i := 12) rfl (by kernel_rfl) (by kernel_rfl) (fun KK hK => ?_)
    go_simp
    refine hK.out _ _ ⟨fun _ => HS1.out, ?_⟩
    clear hK z0 z1 z2 z3 z4 z5 z6 f0 f1 f2 f3 f4 f5 f6
    try simp only [Act.put, List.setIfInBounds_toArray, List.set_cons_zero, List.set_cons_succ]
    refine AnyE.one (i := 13) rfl (by kernel_rfl) (by kernel_rfl) (fun KK hK => ?_)
    go_simp
    refine hK.out _ _ ⟨fun _ => HS2.out, ?_⟩
    clear hK
    refine AnyE.done (by kernel_rfl) (NoPanic.normal ?_) _
    exact hQ.out _ _ _ _ _ HPr.out
  ·go_simp
   have bA := (Below.refl Z1.heap.size Z1).alloc (Nat.le_refl _) (.cells #[.slice none 0 0, .int .i64 0, .slice none 0 0, .int .i64 0, .int .i64 0, .int .i64 0, .slice none 0 0] 40)
   have eA : EBox (Z1.alloc (.cells #[.slice none 0 0, .int .i64 0, .slice none 0 0, .int .i64 0, .int .i64 0, .int .i64 0, .slice none 0 0] 40)) Z1.heap.size zeroD := EBox.new Z1 zeroD
   have tA : (Z1.alloc (.cells #[.slice none 0 0, .int .i64 0, .slice none 0 0, .int .i64 0, .int .i64 0, .int .i64 0, .slice none 0 0] 40)).heap.size = Z1.heap.size + 1 := by simp
   obtain ⟨Z12, hZ⟩ : ∃ z, z = Z1.alloc (.cells #[.slice none 0 0, .int .i64 0, .slice none 0 0, .int .i64 0, .int .i64 0, .int .i64 0, .slice none 0 0] 40) := ⟨_, rfl⟩
   rw [← hZ] at bA eA tA ⊢
   clear hZ
   have T12 := Lib.hid tA
   have HB := Lib.hid (HB.out.trans (bA.mono HB.out.size))
   have HM1 := Lib.hid (HM1.out.later bA)
   have HE2 := Lib.hid eA
   clear bA eA tA
   refine hK.out _ _ ⟨fun _ => HB.out, ?_⟩
   have hHeld := HB.out
   clear hK
   try simp only [Act.put, List.setIfInBounds_toArray, List.set_cons_zero, List.set_cons_succ]
   refine AnyE.twoF (i := 9) (j := 10) rfl rfl (by kernel_rfl) (by kernel_rfl) (by kernel_rfl) (fun KK hK => ?_) (fun KK hK => ?_)
   ·go_simp
    go_at_call 10
    refine (HEn.out _ HB.out).mono ?_
    rintro e9 Z13 ⟨⟨vr, fmD2, vq, tsD2, sqD2, kdD2, vv, rwD2, qlD2, vlD2⟩, rfl, hs9, hl9, b9, ha9⟩
    obtain ⟨pD2, mD2, cD2, e1⟩ := hl9.1.form
    obtain ⟨pqD2, mqD2, cqD2, e2⟩ := hl9.2.1.form
    obtain ⟨pvD2, mvD2, cvD2, e3⟩ := hl9.2.2.form
    simp only at e1 e2 e3
    subst e1 e2 e3
    have T13 : Hid (Z12.heap.size ≤ Z13.heap.size) := b9.size
    have Hnew := Lib.hid (Md.new hs9 hl9 ha9)
    have HB := Lib.hid (HB.out.trans (b9.mono HB.out.size))
    have HM1 := Lib.hid (HM1.out.later b9)
    have HE2 := Lib.hid (HE2.out.later b9)
    have HM2 := Hnew
    clear Hnew hs9 hl9 ha9 b9
    simp only [EntD.cells]
    go_wp2_with fail
    refine hK.out _ _ ⟨fun _ => HB.out, ?_⟩
    have hHeld := HB.out
    clear hK
    try simp only [Act.put, List.setIfInBounds_toArray, List.set_cons_zero, List.set_cons_succ]
    refine AnyE.one (i := 10) rfl (by kernel_rfl) (by kernel_rfl) (fun KK hK => ?_)
    go_simp
    have bA := (Below.refl Z13.heap.size Z13).alloc (Nat.le_refl _) (.cells #[.slice none 0 0, .int .i64 0, .slice none 0 0, .int .i64 0, .int .i64 0, .int .i64 0, .slice none 0 0] 40)
    have eA : EBox (Z13.alloc (.cells #[.slice none 0 0, .int .i64 0, .slice none 0 0, .int .i64 0, .int .i64 0, .int .i64 0, .slice none 0 0] 40)) Z13.heap.size zeroD := EBox.new Z13 zeroD
    have tA : (Z13.alloc (.cells #[.slice none 0 0, .int .i64 0, .slice none 0 0, .int .i64 0, .int .i64 0, .int .i64 0, .slice none 0 0] 40)).heap.size = Z13.heap.size + 1 := by simp
    obtain ⟨Z14, hZ⟩ : ∃ z, z = Z13.alloc (.cells #[.slice none 0 0, .int .i64 0, .slice none 0 0, .int .i64 0, .int .i64 0, .int .i64 0, .slice none 0 0] 40) := ⟨_, rfl⟩
    rw [← hZ] at bA eA tA ⊢
    clear hZ
    have T14 := Lib.hid tA
    have HB := Lib.hid (HB.out.trans (bA.mono HB.out.size))
    have HM1 := Lib.hid (HM1.out.later bA)
    have HM2 := Lib.hid (HM2.out.later bA)
    have HE2 := Lib.hid (HE2.out.later bA)
    have HE1 := Lib.hid eA
    clear bA eA tA
    refine hK.out _ _ ⟨fun _ => HB.out, ?_⟩
    have hHeld := HB.out
    clear hK
    try simp only [Act.put, List.setIfInBounds_toArray, List.set_cons_zero, List.set_cons_succ]
    have HPr := Lib.hid (pair_of HB.out HM1.out HM2.out HE1.out HE2.out (by have h0 := HB0.out; have q1 := T1.out; have q12 := T12.out; have q13 := T13.out; have q14 := T14.out; omega) (by have h0 := HB0.out; have q1 := T1.out; have q12 := T12.out; have q13 := T13.out; have q14 := T14.out; omega) (by have h0 := HB0.out; have q1 := T1.out; have q12 := T12.out; have q13 := T13.out; have q14 := T14.out; omega) (by have h0 := HB0.out; have q1 := T1.out; have q12 := T12.out; have q13 := T13.out; have q14 := T14.out; omega) (by have h0 := HB0.out; have q1 := T1.out; have q12 := T12.out; have q13 := T13.out; have q14 := T14.out; omega))
    have hb1 : wr.heap.size ≤ Z13.heap.size := by have h0 := HB0.out; have q1 := T1.out; have q12 := T12.out; have q13 := T13.out; have q14 := T14.out; omega
    have hb2 : wr.heap.size ≤ Z1.heap.size := by have h0 := HB0.out; have q1 := T1.out; have q12 := T12.out; have q13 := T13.out; have q14 := T14.out; omega
    have hne : Z1.heap.size ≠ Z13.heap.size := by have h0 := HB0.out; have q1 := T1.out; have q12 := T12.out; have q13 := T13.out; have q14 := T14.out; omega
    have HS1 := Lib.hid (below_filled HB.out hb1 (EntD.mk (.slice pD1 mD1 cD1) fmD1 (.slice pqD1 mqD1 cqD1) tsD1 sqD1 kdD1 (.slice pvD1 mvD1 cvD1) rwD1 qlD1 vlD1))
    have HS2 := Lib.hid (below_filled HS1.out hb2 (EntD.mk (.slice pD2 mD2 cD2) fmD2 (.slice pqD2 mqD2 cqD2) tsD2 sqD2 kdD2 (.slice pvD2 mvD2 cvD2) rwD2 qlD2 vlD2))
    have HE3 := Lib.hid (show EBox (filled Z14 (Z13.heap.size) (EntD.mk (.slice pD1 mD1 cD1) fmD1 (.slice pqD1 mqD1 cqD1) tsD1 sqD1 kdD1 (.slice pvD1 mvD1 cvD1) rwD1 qlD1 vlD1)) (Z1.heap.size) zeroD from ((filled_fb Z14 (Z13.heap.size) (EntD.mk (.slice pD1 mD1 cD1) fmD1 (.slice pqD1 mqD1 cqD1) tsD1 sqD1 kdD1 (.slice pvD1 mvD1 cvD1) rwD1 qlD1 vlD1)).block _ (Array.getElem?_eq_some_iff.1 HE2.out).1 hne).trans HE2.out)
    obtain ⟨z0, z1, z2, z3, z4, z5, z6⟩ := HE1.out.cells7
    obtain ⟨f0, f1, f2, f3, f4, f5, f6⟩ := HE1.out.fz7
    simp only [zeroD] at z0 z1 z2 z3 z4 z5 z6
    obtain ⟨y0, y1, y2, y3, y4, y5, y6⟩ := HE3.out.cells7
    obtain ⟨g0, g1, g2, g3, g4, g5, g6⟩ := HE3.out.fz7
    simp only [zeroD, filled] at y0 y1 y2 y3 y4 y5 y6 g0 g1 g2 g3 g4 g5 g6
    clear hHeld hb1 hb2 hne
    refine AnyE.one (i := 12) rfl (by kernel_rfl) (by kernel_rfl) (fun KK hK => ?_)
    go_simp
    refine hK.out _ _ ⟨fun _ => HS1.out, ?_⟩
    clear hK z0 z1 z2 z3 z4 z5 z6 f0 f1 f2 f3 f4 f5 f6
    try simp only [Act.put, List.setIfInBounds_toArray, List.set_cons_zero, List.set_cons_succ]
    refine AnyE.one (i := 13) rfl (by kernel_rfl) (by kernel_rfl) (fun KK hK => ?_)
    go_simp
    refine hK.out _ _ ⟨fun _ => HS2.out, ?_⟩
    clear hK
    refine AnyE.done (by kernel_rfl) (NoPanic.normal ?_) _
    exact hQ.out _ _ _ _ _ HPr.out
   ·go_simp
    have bA := (Below.refl Z12.heap.size Z12).alloc (Nat.le_refl _) (.cells #[.slice none 0 0, .int .i64 0, .slice none 0 0, .int .i64 0, .int .i64 0, .int .i64 0, .slice none 0 0] 40)
    have eA : EBox (Z12.alloc (.cells #[.slice none 0 0, .int .i64 0, .slice none 0 0, .int .i64 0, .int .i64 0, .int .i64 0, .slice none 0 0] 40)) Z12.heap.size zeroD := EBox.new Z12 zeroD
    have tA : (Z12.alloc (.cells #[.slice none 0 0, .int .i64 0, .slice none 0 0, .int .i64 0, .int .i64 0, .int .i64 0, .slice none 0 0] 40)).heap.size = Z12.heap.size + 1 := by simp
    obtain ⟨Z15, hZ⟩ : ∃ z, z = Z12.alloc (.cells #[.slice none 0 0, .int .i64 0, .slice none 0 0, .int .i64 0, .int .i64 0, .int .i64 0, .slice none 0 0] 40) := ⟨_, rfl⟩
    rw [← hZ] at bA eA tA ⊢
    clear hZ
    have T15 := Lib.hid tA
    have HB := Lib.hid (HB.out.trans (bA.mono HB.out.size))
    have HM1 := Lib.hid (HM1.out.later bA)
    have HE2 := Lib.hid (HE2.out.later bA)
    have HE1 := Lib.hid eA
    clear bA eA tA
    refine hK.out _ _ ⟨fun _ => HB.out, ?_⟩
    have hHeld := HB.out
    clear hK
    try simp only [Act.put, List.setIfInBounds_toArray, List.set_cons_zero, List.set_cons_succ]
    refine AnyE.one (i := 9) rfl (by kernel_rfl) (by kernel_rfl) (fun KK hK => ?_)
    go_simp
    go_at_call 10
    refine (HEn.out _ HB.out).mono ?_
    rintro e9 Z16 ⟨⟨vr, fmD2, vq, tsD2, sqD2, kdD2, vv, rwD2, qlD2, vlD2⟩, rfl, hs9, hl9, b9, ha9⟩
    obtain ⟨pD2, mD2, cD2, e1⟩ := hl9.1.form
    obtain ⟨pqD2, mqD2, cqD2, e2⟩ := hl9.2.1.form
    obtain ⟨pvD2, mvD2, cvD2, e3⟩ := hl9.2.2.form
    simp only at e1 e2 e3
    subst e1 e2 e3
    have T16 : Hid (Z15.heap.size ≤ Z16.heap.size) := b9.size
    have Hnew := Lib.hid (Md.new hs9 hl9 ha9)
    have HB := Lib.hid (HB.out.trans (b9.mono HB.out.size))
    have HM1 := Lib.hid (HM1.out.later b9)
    have HE1 := Lib.hid (HE1.out.later b9)
    have HE2 := Lib.hid (HE2.out.later b9)
    have HM2 := Hnew
    clear Hnew hs9 hl9 ha9 b9
    simp only [EntD.cells]
    go_wp2_with fail
    refine hK.out _ _ ⟨fun _ => HB.out, ?_⟩
    have hHeld := HB.out
    clear hK
    try simp only [Act.put, List.setIfInBounds_toArray, List.set_cons_zero, List.set_cons_succ]
    have HPr := Lib.hid (pair_of HB.out HM1.out HM2.out HE1.out HE2.out (by have h0 := HB0.out; have q1 := T1.out; have q12 := T12.out; have q15 := T15.out; have q16 := T16.out; omega) (by have h0 := HB0.out; have q1 := T1.out; have q12 := T12.out; have q15 := T15.out; have q16 := T16.out; omega) (by have h0 := HB0.out; have q1 := T1.out; have q12 := T12.out; have q15 := T15.out; have q16 := T16.out; omega) (by have h0 := HB0.out; have q1 := T1.out; have q12 := T12.out; have q15 := T15.out; have q16 := T16.out; omega) (by have h0 := HB0.out; have q1 := T1.out; have q12 := T12.out; have q15 := T15.out; have q16 := T16.out; omega))
    have hb1 : wr.heap.size ≤ Z12.heap.size := by have h0 := HB0.out; have q1 := T1.out; have q12 := T12.out; have q15 := T15.out; have q16 := T16.out; omega
    have hb2 : wr.heap.size ≤ Z1.heap.size := by have h0 := HB0.out; have q1 := T1.out; have q12 := T12.out; have q15 := T15.out; have q16 := T16.out; omega
    have hne : Z1.heap.size ≠ Z12.heap.size := by have h0 := HB0.out; have q1 := T1.out; have q12 := T12.out; have q15 := T15.out; have q16 := T16.out; omega
    have HS1 := Lib.hid (below_filled HB.out hb1 (EntD.mk (.slice pD1 mD1 cD1) fmD1 (.slice pqD1 mqD1 cqD1) tsD1 sqD1 kdD1 (.slice pvD1 mvD1 cvD1) rwD1 qlD1 vlD1))
    have HS2 := Lib.hid (below_filled HS1.out hb2 (EntD.mk (.slice pD2 mD2 cD2) fmD2 (.slice pqD2 mqD2 cqD2) tsD2 sqD2 kdD2 (.slice pvD2 mvD2 cvD2) rwD2 qlD2 vlD2))
    have HE3 := Lib.hid (show EBox (filled Z16 (Z12.heap.size) (EntD.mk (.slice pD1 mD1 cD1) fmD1 (.slice pqD1 mqD1 cqD1) tsD1 sqD1 kdD1 (.slice pvD1 mvD1 cvD1) rwD1 qlD1 vlD1)) (Z1.heap.size) zeroD from ((filled_fb Z16 (Z12.heap.size) (EntD.mk (.slice pD1 mD1 cD1) fmD1 (.slice pqD1 mqD1 cqD1) tsD1 sqD1 kdD1 (.slice pvD1 mvD1 cvD1) rwD1 qlD1 vlD1)).block _ (Array.getElem?_eq_some_iff.1 HE2.out).1 hne).trans HE2.out)
    obtain ⟨z0, z1, z2, z3, z4, z5, z6⟩ := HE1.out.cells7
    obtain ⟨f0, f1, f2, f3, f4, f5, f6⟩ := HE1.out.fz7
    simp only [zeroD] at z0 z1 z2 z3 z4 z5 z6
    obtain ⟨y0, y1, y2, y3, y4, y5, y6⟩ := HE3.out.cells7
    obtain ⟨g0, g1, g2, g3, g4, g5, g6⟩ := HE3.out.fz7
    simp only [zeroD, filled] at y0 y1 y2 y3 y4 y5 y6 g0 g1 g2 g3 g4 g5 g6
    clear hHeld hb1 hb2 hne
    refine AnyE.one (i := 12) rfl (by kernel_rfl) (by kernel_rfl) (fun KK hK => ?_)
    go_simp
    refine hK.out _ _ ⟨fun _ => HS1.out, ?_⟩
    clear hK z0 z1 z2 z3 z4 z5 z6 f0 f1 f2 f3 f4 f5 f6
    try simp only [Act.put, List.setIfInBounds_toArray, List.set_cons_zero, List.set_cons_succ]
    refine AnyE.one (i := 13) rfl (by kernel_rfl) (by kernel_rfl) (fun KK hK => ?_)
    go_simp
    refine hK.out _ _ ⟨fun _ => HS2.out, ?_⟩
    clear hK
    refine AnyE.done (by kernel_rfl) (NoPanic.normal ?_) _
    exact hQ.out _ _ _ _ _ HPr.out
 ·go_simp
  have bA := (Below.refl Z0.heap.size Z0).alloc (Nat.le_refl _) (.cells #[.slice none 0 0, .int .i64 0, .slice none 0 0, .int .i64 0, .int .i64 0, .int .i64 0, .slice none 0 0] 40)
  have eA : EBox (Z0.alloc (.cells #[.slice none 0 0, .int .i64 0, .slice none 0 0, .int .i64 0, .int .i64 0, .int .i64 0, .slice none 0 0] 40)) Z0.heap.size zeroD := EBox.new Z0 zeroD
  have tA : (Z0.alloc (.cells #[.slice none 0 0, .int .i64 0, .slice none 0 0, .int .i64 0, .int .i64 0, .int .i64 0, .slice none 0 0] 40)).heap.size = Z0.heap.size + 1 := by simp
  obtain ⟨Z17, hZ⟩ : ∃ z, z = Z0.alloc (.cells #[.slice none 0 0, .int .i64 0, .slice none 0 0, .int .i64 0, .int .i64 0, .int .i64 0, .slice none 0 0] 40) := ⟨_, rfl⟩
  rw [← hZ] at bA eA tA ⊢
  clear hZ
  have T17 := Lib.hid tA
  have HB := Lib.hid (HB.out.trans (bA.mono HB.out.size))
  have HE1 := Lib.hid eA
  clear bA eA tA
  refine hK.out _ _ ⟨fun _ => HB.out, ?_⟩
  have hHeld := HB.out
  clear hK
  try simp only [Act.put, List.setIfInBounds_toArray, List.set_cons_zero, List.set_cons_succ]
  refine AnyE.twoF (i := 4) (j := 11) rfl rfl (by kernel_rfl) (by kernel_rfl) (by kernel_rfl) (fun KK hK => ?_) (fun KK hK => ?_)
  ·go_simp
   go_at_call 10
   refine (HEn.out _ HB.out).mono ?_
   rintro e9 Z18 ⟨⟨vr, fmD1, vq, tsD1, sqD1, kdD1, vv, rwD1, qlD1, vlD1⟩, rfl, hs9, hl9, b9, ha9⟩
   obtain ⟨pD1, mD1, cD1, e1⟩ := hl9.1.form
   obtain ⟨pqD1, mqD1, cqD1, e2⟩ := hl9.2.1.form
   obtain ⟨pvD1, mvD1, cvD1, e3⟩ := hl9.2.2.form
   simp only at e1 e2 e3
   subst e1 e2 e3
   have T18 : Hid (Z17.heap.size ≤ Z18.heap.size) := b9.size
   have Hnew := Lib.hid (Md.new hs9 hl9 ha9)
   have HB := Lib.hid (HB.out.trans (b9.mono HB.out.size))
   have HE1 := Lib.hid (HE1.out.later b9)
   have HM1 := Hnew
   clear Hnew hs9 hl9 ha9 b9
   simp only [EntD.cells]
   go_wp2_with fail
   refine hK.out _ _ ⟨fun _ => HB.out, ?_⟩
   have hHeld := HB.out
   clear hK
   try simp only [Act.put, List.setIfInBounds_toArray, List.set_cons_zero, List.set_cons_succ]
   refine AnyE.twoF (i := 9) (j := 11) rfl rfl (by kernel_rfl) (by kernel_rfl) (by kernel_rfl) (fun KK hK => ?_) (fun KK hK => ?_)
   ·go_simp
    go_at_call 10
    refine (HEn.out _ HB.out).mono ?_
    rintro e9 Z19 ⟨⟨vr, fmD2, vq, tsD2, sqD2, kdD2, vv, rwD2, qlD2, vlD2⟩, rfl, hs9, hl9, b9, ha9⟩
    obtain ⟨pD2, mD2, cD2, e1⟩ := hl9.1.form
    obtain ⟨pqD2, mqD2, cqD2, e2⟩ := hl9.2.1.form
    obtain ⟨pvD2, mvD2, cvD2, e3⟩ := hl9.2.2.form
    simp only at e1 e2 e3
    subst e1 e2 e3
    have T19 : Hid (Z18.heap.size ≤ Z19.heap.size) := b9.size
    have Hnew := Lib.hid (Md.new hs9 hl9 ha9)
    have HB := Lib.hid (HB.out.trans (b9.mono HB.out.size))
    have HM1 := Lib.hid (HM1.out.later b9)
    have HE1 := Lib.hid (HE1.out.later b9)
    have HM2 := Hnew
    clear Hnew hs9 hl9 ha9 b9
    simp only [EntD.cells]
    go_wp2_with fail
    refine hK.out _ _ ⟨fun _ => HB.out, ?_⟩
    have hHeld := HB.out
    clear hK
    try simp only [Act.put, List.setIfInBounds_toArray, List.set_cons_zero, List.set_cons_succ]
    refine AnyE.one (i := 11) rfl (by kernel_rfl) (by kernel_rfl) (fun KK hK => ?_)
    go_simp
    have bA := (Below.refl Z19.heap.size Z19).alloc (Nat.le_refl _) (.cells #[.slice none 0 0, .int .i64 0, .slice none 0 0, .int .i64 0, .int .i64 0, .int .i64 0, .slice none 0 0] 40)
    have eA : EBox (Z19.alloc (.cells #[.slice none 0 0, .int .i64 0, .slice none 0 0, .int .i64 0, .int .i64 0, .int .i64 0, .slice none 0 0] 40)) Z19.heap.size zeroD := EBox.new Z19 zeroD
    have tA : (Z19.alloc (.cells #[.slice none 0 0, .int .i64 0, .slice none 0 0, .int .i64 0, .int .i64 0, .int .i64 0, .slice none 0 0] 40)).heap.size = Z19.heap.size + 1 := by simp
    obtain ⟨Z20, hZ⟩ : ∃ z, z = Z19.alloc (.cells #[.slice none 0 0, .int .i64 0, .slice none 0 0, .int .i64 0, .int .i64 0, .int .i64 0, .slice none 0 0] 40) := ⟨_, rfl⟩
    rw [← hZ] at bA eA tA ⊢
    clear hZ
    have T20 := Lib.hid tA
    have HB := Lib.hid (HB.out.trans (bA.mono HB.out.size))
    have HM1 := Lib.hid (HM1.out.later bA)
    have HM2 := Lib.hid (HM2.out.later bA)
    have HE1 := Lib.hid (HE1.out.later bA)
    have HE2 := Lib.hid eA
    clear bA eA tA
    refine hK.out _ _ ⟨fun _ => HB.out, ?_⟩
    have hHeld := HB.out
    clear hK
    try simp only [Act.put, List.setIfInBounds_toArray, List.set_cons_zero, List.set_cons_succ]
    have HPr := Lib.hid (pair_of HB.out HM1.out HM2.out HE1.out HE2.out (by have h0 := HB0.out; have q17 := T17.out; have q18 := T18.out; have q19 := T19.out; have q20 := T20.out; omega) (by have h0 := HB0.out; have q17 := T17.out; have q18 := T18.out; have q19 := T19.out; have q20 := T20.out; omega) (by have h0 := HB0.out; have q17 := T17.out; have q18 := T18.out; have q19 := T19.out; have q20 := T20.out; omega) (by have h0 := HB0.out; have q17 := T17.out; have q18 := T18.out; have q19 := T19.out; have q20 := T20.out; omega) (by have h0 := HB0.out; have q17 := T17.out; have q18 := T18.out; have q19 := T19.out; have q20 := T20.out; omega))
    have hb1 : wr.heap.size ≤ Z0.heap.size := by have h0 := HB0.out; have q17 := T17.out; have q18 := T18.out; have q19 := T19.out; have q20 := T20.out; omega
    have hb2 : wr.heap.size ≤ Z19.heap.size := by have h0 := HB0.out; have q17 := T17.out; have q18 := T18.out; have q19 := T19.out; have q20 := T20.out; omega
    have hne : Z19.heap.size ≠ Z0.heap.size := by have h0 := HB0.out; have q17 := T17.out; have q18 := T18.out; have q19 := T19.out; have q20 := T20.out; omega
    have HS1 := Lib.hid (below_filled HB.out hb1 (EntD.mk (.slice pD1 mD1 cD1) fmD1 (.slice pqD1 mqD1 cqD1) tsD1 sqD1 kdD1 (.slice pvD1 mvD1 cvD1) rwD1 qlD1 vlD1))
    have HS2 := Lib.hid (below_filled HS1.out hb2 (EntD.mk (.slice pD2 mD2 cD2) fmD2 (.slice pqD2 mqD2 cqD2) tsD2 sqD2 kdD2 (.slice pvD2 mvD2 cvD2) rwD2 qlD2 vlD2))
    have HE3 := Lib.hid (show EBox (filled Z20 (Z0.heap.size) (EntD.mk (.slice pD1 mD1 cD1) fmD1 (.slice pqD1 mqD1 cqD1) tsD1 sqD1 kdD1 (.slice pvD1 mvD1 cvD1) rwD1 qlD1 vlD1)) (Z19.heap.size) zeroD from ((filled_fb Z20 (Z0.heap.size) (EntD.mk (.slice pD1 mD1 cD1) fmD1 (.slice pqD1 mqD1 cqD1) tsD1 sqD1 kdD1 (.slice pvD1 mvD1 cvD1) rwD1 qlD1 vlD1)).block _ (Array.getElem?_eq_some_iff.1 HE2.out).1 hne).trans HE2.out)
    obtain ⟨z0, z1, z2, z3, z4, z5, z6⟩ := HE1.out.cells7
    obtain ⟨f0, f1, f2, f3, f4, f5, f6⟩ := HE1.out.fz7
    simp only [zeroD] at z0 z1 z2 z3 z4 z5 z6
    obtain ⟨y0, y1, y2, y3, y4, y5, y6⟩ := HE3.out.cells7
    obtain ⟨g0, g1, g2, g3, g4, g5, g6⟩ := HE3.out.fz7
    simp only [zeroD, filled] at y0 y1 y2 y3 y4 y5 y6 g0 g1 g2 g3 g4 g5 g6
    clear hHeld hb1 hb2 hne
    refine AnyE.one (i := 12) rfl (by kernel_rfl) (by kernel_rfl) (fun KK hK => ?_)
    go_simp
    refine hK.out _ _ ⟨fun _ => HS1.out, ?_⟩
    clear hK z0 z1 z2 z3 z4 z5 z6 f0 f1 f2 f3 f4 f5 f6
    try simp only [Act.put, List.setIfInBounds_toArray, List.set_cons_zero, List.set_cons_succ]
    refine AnyE.one (i := 13) rfl (by kernel_rfl) (by kernel_rfl) (fun KK hK => ?_)
    go_simp
    refine hK.out _ _ ⟨fun _ => HS2.out, ?_⟩
    clear hK
    refine AnyE.done (by kernel_rfl) (NoPanic.normal ?_) _
    exact hQ.out _ _ _ _ _ HPr.out
   ·go_simp
    have bA := (Below.refl Z18.heap.size Z18).alloc (Nat.le_refl _) (.cells #[.slice none 0 0, .int .i64 0, .slice none 0 0, .int .i64 0, .int .i64 0, .int .i64 0, .slice none 0 0] 40)
    have eA : EBox (Z18.alloc (.cells #[.slice none 0 0, .int .i64 0, .slice none 0 0, .int .i64 0, .int .i64 0, .int .i64 0, .slice none 0 0] 40)) Z18.heap.size zeroD := EBox.new Z18 zeroD
    have tA : (Z18.alloc (.cells #[.slice none 0 0, .int .i64 0, .slice none 0 0, .int .i64 0, .int .i64 0, .int .i64 0, .slice none 0 0] 40)).heap.size = Z18.heap.size + 1 := by simp
    obtain ⟨Z21, hZ⟩ : ∃ z, z = Z18.alloc (.cells #[.slice none 0 0, .int .i64 0, .slice none 0 0, .int .i64 0, .int .i64 0, .int .i64 0, .slice none 0 0] 40) := ⟨_, rfl⟩
    rw [← hZ] at bA eA tA ⊢
    clear hZ
    have T21 := Lib.hid tA
    have HB := Lib.hid (HB.out.trans (bA.mono HB.out.size))
    have HM1 := Lib.hid (HM1.out.later bA)
    have HE1 := Lib.hid (HE1.out.later bA)
    have HE2 := Lib.hid eA
    clear bA eA tA
    refine hK.out _ _ ⟨fun _ => HB.out, ?_⟩
    have hHeld := HB.out
    clear hK
    try simp only [Act.put, List.setIfInBounds_toArray, List.set_cons_zero, List.set_cons_succ]
    refine AnyE.one (i := 9) rfl (by kernel_rfl) (by kernel_rfl) (fun KK hK => ?_)
    go_simp
    go_at_call 10
    refine (HEn.out _ HB.out).mono ?_
    rintro e9 Z22 ⟨⟨vr, fmD2, vq, tsD2, sqD2, kdD2, vv, rwD2, qlD2, vlD2⟩, rfl, hs9, hl9, b9, ha9⟩
    obtain ⟨pD2, mD2, cD2, e1⟩ := hl9.1.form
    obtain ⟨pqD2, mqD2, cqD2, e2⟩ := hl9.2.1.form
    obtain ⟨pvD2, mvD2, cvD2, e3⟩ := hl9.2.2.form
    simp only at e1 e2 e3
    subst e1 e2 e3
    have T22 : Hid (Z21.heap.size ≤ Z22.heap.size) := b9.size
    have Hnew := Lib.hid (Md.new hs9 hl9 ha9)
    have HB := Lib.hid (HB.out.trans (b9.mono HB.out.size))
    have HM1 := Lib.hid (HM1.out.later b9)
    have HE1 := Lib.hid (HE1.out.later b9)
    have HE2 := Lib.hid (HE2.out.later b9)
    have HM2 := Hnew
    clear Hnew hs9 hl9 ha9 b9
    simp only [EntD.cells]
    go_wp2_with fail
    refine hK.out _ _ ⟨fun _ => HB.out, ?_⟩
    have hHeld := HB.out
    clear hK
    try simp only [Act.put, List.setIfInBounds_toArray, List.set_cons_zero, List.set_cons_succ]
    have HPr := Lib.hid (pair_of HB.out HM1.out HM2.out HE1.out HE2.out (by have h0 := HB0.out; have q17 := T17.out; have q18 := T18.out; have q21 := T21.out; have q22 := T22.out; omega) (by have h0 := HB0.out; have q17 := T17.out; have q18 := T18.out; have q21 := T21.out; have q22 := T22.out; omega) (by have h0 := HB0.out; have q17 := T17.out; have q18 := T18.out; have q21 := T21.out; have q22 := T22.out; omega) (by have h0 := HB0.out; have q17 := T17.out; have q18 := T18.out; have q21 := T21.out; have q22 := T22.out; omega) (by have h0 := HB0.out; have q17 := T17.out; have q18 := T18.out; have q21 := T21.out; have q22 := T22.out; omega))
    have hb1 : wr.heap.size ≤ Z0.heap.size := by have h0 := HB0.out; have q17 := T17.out; have q18 := T18.out; have q21 := T21.out; have q22 := T22.out; omega
    have hb2 : wr.heap.size ≤ Z18.heap.size := by have h0 := HB0.out; have q17 := T17.out; have q18 := T18.out; have q21 := T21.out; have q22 := T22.out; omega
    have hne : Z18.heap.size ≠ Z0.heap.size := by have h0 := HB0.out; have q17 := T17.out; have q18 := T18.out; have q21 := T21.out; have q22 := T22.out; omega
    have HS1 := Lib.hid (below_filled HB.out hb1 (EntD.mk (.slice pD1 mD1 cD1) fmD1 (.slice pqD1 mqD1 cqD1) tsD1 sqD1 kdD1 (.slice pvD1 mvD1 cvD1) rwD1 qlD1 vlD1))
    have HS2 := Lib.hid (below_filled HS1.out hb2 (EntD.mk (.slice pD2 mD2 cD2) fmD2 (.slice pqD2 mqD2 cqD2) tsD2 sqD2 kdD2 (.slice pvD2 mvD2 cvD2) rwD2 qlD2 vlD2))
    have HE3 := Lib.hid (show EBox (filled Z22 (Z0.heap.size) (EntD.mk (.slice pD1 mD1 cD1) fmD1 (.slice pqD1 mqD1 cqD1) tsD1 sqD1 kdD1 (.slice pvD1 mvD1 cvD1) rwD1 qlD1 vlD1)) (Z18.heap.size) zeroD from ((filled_fb Z22 (Z0.heap.size) (EntD.mk (.slice pD1 mD1 cD1) fmD1 (.slice pqD1 mqD1 cqD1) tsD1 sqD1 kdD1 (.slice pvD1 mvD1 cvD1) rwD1 qlD1 vlD1)).block _ (Array.getElem?_eq_some_iff.1 HE2.out).1 hne).trans HE2.out)
    obtain ⟨z0, z1, z2, z3, z4, z5, z6⟩ := HE1.out.cells7
    obtain ⟨f0, f1, f2, f3, f4, f5, f6⟩ := HE1.out.fz7
    simp only [zeroD] at z0 z1 z2 z3 z4 z5 z6
    obtain ⟨y0, y1, y2, y3, y4, y5, y6⟩ := HE3.out.cells7
    obtain ⟨g0, g1, g2, g3, g4, g5, g6⟩ := HE3.out.fz7
    simp only [zeroD, filled] at y0 y1 y2 y3 y4 y5 y6 g0 g1 g2 g3 g4 g5 g6
    clear hHeld hb1 hb2 hne
    refine AnyE.one (i := 12) rfl (by kernel_rfl) (by kernel_rfl) (fun KK hK => ?_)
    go_simp
    refine hK.out _ _ ⟨fun _ => HS1.out, ?_⟩
    clear hK z0 z1 z2 z3 z4 z5 z6 f0 f1 f2 f3 f4 f5 f6
    try simp only [Act.put, List.setIfInBounds_toArray, List.set_cons_zero, List.set_cons_succ]
    refine AnyE.one (i := 13) rfl (by kernel_rfl) (by kernel_rfl) (fun KK hK => ?_)
    go_simp
    refine hK.out _ _ ⟨fun _ => HS2.out, ?_⟩
    clear hK
    refine AnyE.done (by kernel_rfl) (NoPanic.normal ?_) _
    exact hQ.out _ _ _ _ _ HPr.out
  ·go_simp
   have bA := (Below.refl Z17.heap.size Z17).alloc (Nat.le_refl _) (.cells #[.slice none 0 0, .int .i64 0, .slice none 0 0, .int .i64 0, .int .i64 0, .int .i64 0, .slice none 0 0] 40)
   have eA : EBox (Z17.alloc (.cells #[.slice none 0 0, .int .i64 0, .slice none 0 0, .int .i64 0, .int .i64 0, .int .i64 0, .slice none 0 0] 40)) Z17.heap.size zeroD := EBox.new Z17 zeroD
   have tA : (Z17.alloc (.cells #[.slice none 0 0, .int .i64 0, .slice none 0 0, .int .i64 0, .int .i64 0, .int .i64 0, .slice none 0 0] 40)).heap.size = Z17.heap.size + 1 := by simp
   obtain ⟨Z23, hZ⟩ : ∃ z, z = Z17.alloc (.cells #[.slice none 0 0, .int .i64 0, .slice none 0 0, .int .i64 0, .int .i64 0, .int .i64 0, .slice none 0 0] 40) := ⟨_, rfl⟩
   rw [← hZ] at bA eA tA ⊢
   clear hZ
   have T23 := Lib.hid tA
   have HB := Lib.hid (HB.out.trans (bA.mono HB.out.size))
   have HE1 := Lib.hid (HE1.out.later bA)
   have HE2 := Lib.hid eA
   clear bA eA tA
   refine hK.out _ _ ⟨fun _ => HB.out, ?_⟩
   have hHeld := HB.out
   clear hK
   try simp only [Act.put, List.setIfInBounds_toArray, List.set_cons_zero, List.set_cons_succ]
   refine AnyE.one (i := 4) rfl (by kernel_rfl) (by kernel_rfl) (fun KK hK => ?_)
   go_simp
   go_at_call 10
   refine (HEn.out _ HB.out).mono ?_
   rintro e9 Z24 ⟨⟨vr, fmD1, vq, tsD1, sqD1, kdD1, vv, rwD1, qlD1, vlD1⟩, rfl, hs9, hl9, b9, ha9⟩
   obtain ⟨pD1, mD1, cD1, e1⟩ := hl9.1.form
   obtain ⟨pqD1, mqD1, cqD1, e2⟩ := hl9.2.1.form
   obtain ⟨pvD1, mvD1, cvD1, e3⟩ := hl9.2.2.form
   simp only at e1 e2 e3
   subst e1 e2 e3
   have T24 : Hid (Z23.heap.size ≤ Z24.heap.size) := b9.size
   have Hnew := Lib.hid (Md.new hs9 hl9 ha9)
   have HB := Lib.hid (HB.out.trans (b9.mono HB.out.size))
   have HE1 := Lib.hid (HE1.out.later b9)
   have HE2 := Lib.hid (HE2.out.later b9)
   have HM1 := Hnew
   clear Hnew hs9 hl9 ha9 b9
   simp only [EntD.cells]
   go_wp2_with fail
   refine hK.out _ _ ⟨fun _ => HB.out, ?_⟩
   have hHeld := HB.out
   clear hK
   try simp only [Act.put, List.setIfInBounds_toArray, List.set_cons_zero, List.set_cons_succ]
   refine AnyE.one (i := 9) rfl (by kernel_rfl) (by kernel_rfl) (fun KK hK => ?_)
   go_simp
   go_at_call 10
   refine (HEn.out _ HB.out).mono ?_
   rintro e9 Z25 ⟨⟨vr, fmD2, vq, tsD2, sqD2, kdD2, vv, rwD2, qlD2, vlD2⟩, rfl, hs9, hl9, b9, ha9⟩
   obtain ⟨pD2, mD2, cD2, e1⟩ := hl9.1.form
   obtain ⟨pqD2, mqD2, cqD2, e2⟩ := hl9.2.1.form
   obtain ⟨pvD2, mvD2, cvD2, e3⟩ := hl9.2.2.form
   simp only at e1 e2 e3
   subst e1 e2 e3
   have T25 : Hid (Z24.heap.size ≤ Z25.heap.size) := b9.size
   have Hnew := Lib.hid (Md.new hs9 hl9 ha9)
   have HB := Lib.hid (HB.out.trans (b9.mono HB.out.size))
   have HM1 := Lib.hid (HM1.out.later b9)
   have HE1 := Lib.hid (HE1.out.later b9)
   have HE2 := Lib.hid (HE2.out.later b9)
   have HM2 := Hnew
   clear Hnew hs9 hl9 ha9 b9
   simp only [EntD.cells]
   go_wp2_with fail
   refine hK.out _ _ ⟨fun _ => HB.out, ?_⟩
   have hHeld := HB.out
   clear hK
   try simp only [Act.put, List.setIfInBounds_toArray, List.set_cons_zero, List.set_cons_succ]
   have HPr := Lib.hid (pair_of HB.out HM1.out HM2.out HE1.out HE2.out (by have h0 := HB0.out; have q17 := T17.out; have q23 := T23.out; have q24 := T24.out; have q25 := T25.out; omega) (by have h0 := HB0.out; have q17 := T17.out; have q23 := T23.out; have q24 := T24.out; have q25 := T25.out; omega) (by have h0 := HB0.out; have q17 := T17.out; have q23 := T23.out; have q24 := T24.out; have q25 := T25.out; omega) (by have h0 := HB0.out; have q17 := T17.out; have q23 := T23.out; have q24 := T24.out; have q25 := T25.out; omega) (by have h0 := HB0.out; have q17 := T17.out; have q23 := T23.out; have q24 := T24.out; have q25 := T25.out; omega))
   have hb1 : wr.heap.size ≤ Z0.heap.size := by have h0 := HB0.out; have q17 := T17.out; have q23 := T23.out; have q24 := T24.out; have q25 := T25.out; omega
   have hb2 : wr.heap.size ≤ Z17.heap.size := by have h0 := HB0.out; have q17 := T17.out; have q23 := T23.out; have q24 := T24.out; have q25 := T25.out; omega
   have hne : Z17.heap.size ≠ Z0.heap.size := by have h0 := HB0.out; have q17 := T17.out; have q23 := T23.out; have q24 := T24.out; have q25 := T25.out; omega
   have HS1 := Lib.hid (below_filled HB.out hb1 (EntD.mk (.slice pD1 mD1 cD1) fmD1 (.slice pqD1 mqD1 cqD1) tsD1 sqD1 kdD1 (.slice pvD1 mvD1 cvD1) rwD1 qlD1 vlD1))
   have HS2 := Lib.hid (below_filled HS1.out hb2 (EntD.mk (.slice pD2 mD2 cD2) fmD2 (.slice pqD2 mqD2 cqD2) tsD2 sqD2 kdD2 (.slice pvD2 mvD2 cvD2) rwD2 qlD2 vlD2))
   have HE3 := Lib.hid (show EBox (filled Z25 (Z0.heap.size) (EntD.mk (.slice pD1 mD1 cD1) fmD1 (.slice pqD1 mqD1 cqD1) tsD1 sqD1 kdD1 (.slice pvD1 mvD1 cvD1) rwD1 qlD1 vlD1)) (Z17.heap.size) zeroD from ((filled_fb Z25 (Z0.heap.size) (EntD.mk (.slice pD1 mD1 cD1) fmD1 (.slice pqD1 mqD1 cqD1) tsD1 sqD1 kdD1 (.slice pvD1 mvD1 cvD1) rwD1 qlD1 vlD1)).block _ (Array.getElem?_eq_some_iff.1 HE2.out).1 hne).trans HE2.out)
   obtain ⟨z0, z1, z2, z3, z4, z5, z6⟩ := HE1.out.cells7
   obtain ⟨f0, f1, f2, f3, f4, f5, f6⟩ := HE1.out.fz7
   simp only [zeroD] at z0 z1 z2 z3 z4 z5 z6
   obtain ⟨y0, y1, y2, y3, y4, y5, y6⟩ := HE3.out.cells7
   obtain ⟨g0, g1, g2, g3, g4, g5, g6⟩ := HE3.out.fz7
   simp only [zeroD, filled] at y0 y1 y2 y3 y4 y5 y6 g0 g1 g2 g3 g4 g5 g6
   clear hHeld hb1 hb2 hne
   refine AnyE.one (i := 12) rfl (by kernel_rfl) (by kernel_rfl) (fun KK hK => ?_)
   go_simp
   refine hK.out _ _ ⟨fun _ => HS1.out, ?_⟩
   clear hK z0 z1 z2 z3 z4 z5 z6 f0 f1 f2 f3 f4 f5 f6
   try simp only [Act.put, List.setIfInBounds_toArray, List.set_cons_zero, List.set_cons_succ]
   refine AnyE.one (i := 13) rfl (by kernel_rfl) (by kernel_rfl) (fun KK hK => ?_)
   go_simp
   refine hK.out _ _ ⟨fun _ => HS2.out, ?_⟩
   clear hK
   refine AnyE.done (by kernel_rfl) (NoPanic.normal ?_) _
   exact hQ.out _ _ _ _ _ HPr.out
 ·go_simp
  have bA := (Below.refl Z0.heap.size Z0).alloc (Nat.le_refl _) (.cells #[.slice none 0 0, .int .i64 0, .slice none 0 0, .int .i64 0, .int .i64 0, .int .i64 0, .slice none 0 0] 40)
  have eA : EBox (Z0.alloc (.cells #[.slice none 0 0, .int .i64 0, .slice none 0 0, .int .i64 0, .int .i64 0, .int .i64 0, .slice none 0 0] 40)) Z0.heap.size zeroD := EBox.new Z0 zeroD
  have tA : (Z0.alloc (.cells #[.slice none 0 0, .int .i64 0, .slice none 0 0, .int .i64 0, .int .i64 0, .int .i64 0, .slice none 0 0] 40)).heap.size = Z0.heap.size + 1 := by simp
  obtain ⟨Z26, hZ⟩ : ∃ z, z = Z0.alloc (.cells #[.slice none 0 0, .int .i64 0, .slice none 0 0, .int .i64 0, .int .i64 0, .int .i64 0, .slice none 0 0] 40) := ⟨_, rfl⟩
  rw [← hZ] at bA eA tA ⊢
  clear hZ
  have T26 := Lib.hid tA
  have HB := Lib.hid (HB.out.trans (bA.mono HB.out.size))
  have HE2 := Lib.hid eA
  clear bA eA tA
  refine hK.out _ _ ⟨fun _ => HB.out, ?_⟩
  have hHeld := HB.out
  clear hK
  try simp only [Act.put, List.setIfInBounds_toArray, List.set_cons_zero, List.set_cons_succ]
  refine AnyE.twoF (i := 4) (j := 10) rfl rfl (by kernel_rfl) (by kernel_rfl) (by kernel_rfl) (fun KK hK => ?_) (fun KK hK => ?_)
  ·go_simp
   go_at_call 10
   refine (HEn.out _ HB.out).mono ?_
   rintro e9 Z27 ⟨⟨vr, fmD1, vq, tsD1, sqD1, kdD1, vv, rwD1, qlD1, vlD1⟩, rfl, hs9, hl9, b9, ha9⟩
   obtain ⟨pD1, mD1, cD1, e1⟩ := hl9.1.form
   obtain ⟨pqD1, mqD1, cqD1, e2⟩ := hl9.2.1.form
   obtain ⟨pvD1, mvD1, cvD1, e3⟩ := hl9.2.2.form
   simp only at e1 e2 e3
   subst e1 e2 e3
   have T27 : Hid (Z26.heap.size ≤ Z27.heap.size) := b9.size
   have Hnew := Lib.hid (Md.new hs9 hl9 ha9)
   have HB := Lib.hid (HB.out.trans (b9.mono HB.out.size))
   have HE2 := Lib.hid (HE2.out.later b9)
   have HM1 := Hnew
   clear Hnew hs9 hl9 ha9 b9
   simp only [EntD.cells]
   go_wp2_with fail
   refine hK.out _ _ ⟨fun _ => HB.out, ?_⟩
   have hHeld := HB.out
   clear hK
   try simp only [Act.put, List.setIfInBounds_toArray, List.set_cons_zero, List.set_cons_succ]
   refine AnyE.twoF (i := 9) (j := 10) rfl rfl (by kernel_rfl) (by kernel_rfl) (by kernel_rfl) (fun KK hK => ?_) (fun KK hK => ?_)
   ·go_simp
    go_at_call 10
    refine (HEn.out _ HB.out).mono ?_
    rintro e9 Z28 ⟨⟨vr, fmD2, vq, tsD2, sqD2, kdD2, vv, rwD2, qlD2, vlD2⟩, rfl, hs9, hl9, b9, ha9⟩
    obtain ⟨pD2, mD2, cD2, e1⟩ := hl9.1.form
    obtain ⟨pqD2, mqD2, cqD2, e2⟩ := hl9.2.1.form
    obtain ⟨pvD2, mvD2, cvD2, e3⟩ := hl9.2.2.form
    simp only at e1 e2 e3
    subst e1 e2 e3
    have T28 : Hid (Z27.heap.size ≤ Z28.heap.size) := b9.size
    have Hnew := Lib.hid (Md.new hs9 hl9 ha9)
    have HB := Lib.hid (HB.out.trans (b9.mono HB.out.size))
    have HM1 := Lib.hid (HM1.out.later b9)
    have HE2 := Lib.hid (HE2.out.later b9)
    have HM2 := Hnew
    clear Hnew hs9 hl9 ha9 b9
    simp only [EntD.cells]
    go_wp2_with fail
    refine hK.out _ _ ⟨fun _ => HB.out, ?_⟩
    have hHeld := HB.out
    clear hK
    try simp only [Act.put, List.setIfInBounds_toArray, List.set_cons_zero, List.set_cons_succ]
    refine AnyE.one (i := 10) rfl (by kernel_rfl) (by kernel_rfl) (fun KK hK => ?_)
    go_simp
    have bA := (Below.refl Z28.heap.size Z28).alloc (Nat.le_refl _) (.cells #[.slice none 0 0, .int .i64 0, .slice none 0 0, .int .i64 0, .int .i64 0, .int .i64 0, .slice none 0 0] 40)
    have eA : EBox (Z28.alloc (.cells #[.slice none 0 0, .int .i64 0, .slice none 0 0, .int .i64 0, .int .i64 0, .int .i64 0, .slice none 0 0] 40)) Z28.heap.size zeroD := EBox.new Z28 zeroD
    have tA : (Z28.alloc (.cells #[.slice none 0 0, .int .i64 0, .slice none 0 0, .int .i64 0, .int .i64 0, .int .i64 0, .slice none 0 0] 40)).heap.size = Z28.heap.size + 1 := by simp
    obtain ⟨Z29, hZ⟩ : ∃ z, z = Z28.alloc (.cells #[.slice none 0 0, .int .i64 0, .slice none 0 0, .int .i64 0, .int .i64 0, .int .i64 0, .slice none 0 0] 40) := ⟨_, rfl⟩
    rw [← hZ] at bA eA tA ⊢
    clear hZ
    have T29 := Lib.hid tA
    have HB := Lib.hid (HB.out.trans (bA.mono HB.out.size))
    have HM1 := Lib.hid (HM1.out.later bA)
    have HM2 := Lib.hid (HM2.out.later bA)
    have HE2 := Lib.hid (HE2.out.later bA)
    have HE1 := Lib.hid eA
    clear bA eA tA
    refine hK.out _ _ ⟨fun _ => HB.out, ?_⟩
    have hHeld := HB.out
    clear hK
    try simp only [Act.put, List.setIfInBounds_toArray, List.set_cons_zero, List.set_cons_succ]
    have HPr := Lib.hid (pair_of HB.out HM1.out HM2.out HE1.out HE2.out (by have h0 := HB0.out; have q26 := T26.out; have q27 := T27.out; have q28 := T28.out; have q29 := T29.out; omega) (by have h0 := HB0.out; have q26 := T26.out; have q27 := T27.out; have q28 := T28.out; have q29 := T29.out; omega) (by have h0 := HB0.out; have q26 := T26.out; have q27 := T27.out; have q28 := T28.out; have q29 := T29.out; omega) (by have h0 := HB0.out; have q26 := T26.out; have q27 := T27.out; have q28 := T28.out; have q29 := T29.out; omega) (by have h0 := HB0.out; have q26 := T26.out; have q27 := T27.out; have q28 := T28.out; have q29 := T29.out; omega))
    have hb1 : wr.heap.size ≤ Z28.heap.size := by have h0 := HB0.out; have q26 := T26.out; have q27 := T27.out; have q28 := T28.out; have q29 := T29.out; omega
    have hb2 : wr.heap.size ≤ Z0.heap.size := by have h0 := HB0.out; have q26 := T26.out; have q27 := T27.out; have q28 := T28.out; have q29 := T29.out; omega
    have hne : Z0.heap.size ≠ Z28.heap.size := by have h0 := HB0.out; have q26 := T26.out; have q27 := T27.out; have q28 := T28.out; have q29 := T29.out; omega
    have HS1 := Lib.hid (below_filled HB.out hb1 (EntD.mk (.slice pD1 mD1 cD1) fmD1 (.slice pqD1 mqD1 cqD1) tsD1 sqD1 kdD1 (.slice pvD1 mvD1 cvD1) rwD1 qlD1 vlD1))
    have HS2 := Lib.hid (below_filled HS1.out hb2 (EntD.mk (.slice pD2 mD2 cD2) fmD2 (.slice pqD2 mqD2 cqD2) tsD2 sqD2 kdD2 (.slice pvD2 mvD2 cvD2) rwD2 qlD2 vlD2))
    have HE3 := Lib.hid (show EBox (filled Z29 (Z28.heap.size) (EntD.mk (.slice pD1 mD1 cD1) fmD1 (.slice pqD1 mqD1 cqD1) tsD1 sqD1 kdD1 (.slice pvD1 mvD1 cvD1) rwD1 qlD1 vlD1)) (Z0.heap.size) zeroD from ((filled_fb Z29 (Z28.heap.size) (EntD.mk (.slice pD1 mD1 cD1) fmD1 (.slice pqD1 mqD1 cqD1) tsD1 sqD1 kdD1 (.slice pvD1 mvD1 cvD1) rwD1 qlD1 vlD1)).block _ (Array.getElem?_eq_some_iff.1 HE2.out).1 hne).trans HE2.out)
    obtain ⟨z0, z1, z2, z3, z4, z5, z6⟩ := HE1.out.cells7
    obtain ⟨f0, f1, f2, f3, f4, f5, f6⟩ := HE1.out.fz7
    simp only [zeroD] at z0 z1 z2 z3 z4 z5 z6
    obtain ⟨y0, y1, y2, y3, y4, y5, y6⟩ := HE3.out.cells7
    obtain ⟨g0, g1, g2, g3, g4, g5, g6⟩ := HE3.out.fz7
    simp only [zeroD, filled] at y0 y1 y2 y3 y4 y5 y6 g0 g1 g2 g3 g4 g5 g6
    clear hHeld hb1 hb2 hne
    refine AnyE.one (i := 12) rfl (by kernel_rfl) (by kernel_rfl) (fun KK hK => ?_)
    go_simp
    refine hK.out _ _ ⟨fun _ => HS1.out, ?_⟩
    clear hK z0 z1 z2 z3 z4 z5 z6 f0 f1 f2 f3 f4 f5 f6
    try simp only [Act.put, List.setIfInBounds_toArray, List.set_cons_zero, List.set_cons_succ]
    refine AnyE.one (i := 13) rfl (by kernel_rfl) (by kernel_rfl) (fun KK hK => ?_)
    go_simp
    refine hK.out _ _ ⟨fun _ => HS2.out, ?_⟩
    clear hK
    refine AnyE.done (by kernel_rfl) (NoPanic.normal ?_) _
    exact hQ.out _ _ _ _ _ HPr.out
   ·go_simp
    have bA := (Below.refl Z27.heap.size Z27).alloc (Nat.le_refl _) (.cells #[.slice none 0 0, .int .i64 0, .slice none 0 0, .int .i64 0, .int .i64 0, .int .i64 0, .slice none 0 0] 40)
    have eA : EBox (Z27.alloc (.cells #[.slice none 0 0, .int .i64 0, .slice none 0 0, .int .i64 0, .int .i64 0, .int .i64 0, .slice none 0 0] 40)) Z27.heap.size zeroD := EBox.new Z27 zeroD
    have tA : (Z27.alloc (.cells #[.slice none 0 0, .int .i64 0, .slice none 0 0, .int .i64 0, .int .i64 0, .int .i64 0, .slice none 0 0] 40)).heap.size = Z27.heap.size + 1 := by simp
    obtain ⟨Z30, hZ⟩ : ∃ z, z = Z27.alloc (.cells #[.slice none 0 0, .int .i64 0, .slice none 0 0, .int .i64 0, .int .i64 0, .int .i64 0, .slice none 0 0] 40) := ⟨_, rfl⟩
    rw [← hZ] at bA eA tA ⊢
    clear hZ
    have T30 := Lib.hid tA
    have HB := Lib.hid (HB.out.trans (bA.mono HB.out.size))
    have HM1 := Lib.hid (HM1.out.later bA)
    have HE2 := Lib.hid (HE2.out.later bA)
    have HE1 := Lib.hid eA
    clear bA eA tA
    refine hK.out _ _ ⟨fun _ => HB.out, ?_⟩
    have hHeld := HB.out
    clear hK
    try simp only [Act.put, List.setIfInBounds_toArray, List.set_cons_zero, List.set_cons_succ]
    refine AnyE.one (i := 9) rfl (by kernel_rfl) (by kernel_rfl) (fun KK hK => ?_)
    go_simp
    go_at_call 10
    refine (HEn.out _ HB.out).mono ?_
    rintro e9 Z31 ⟨⟨vr, fmD2, vq, tsD2, sqD2, kdD2, vv, rwD2, qlD2, vlD2⟩, rfl, hs9, hl9, b9, ha9⟩
    obtain ⟨pD2, mD2, cD2, e1⟩ := hl9.1.form
    obtain ⟨pqD2, mqD2, cqD2, e2⟩ := hl9.2.1.form
    obtain ⟨pvD2, mvD2, cvD2, e3⟩ := hl9.2.2.form
    simp only at e1 e2 e3
    subst e1 e2 e3
    have T31 : Hid (Z30.heap.size ≤ Z31.heap.size) := b9.size
    have Hnew := Lib.hid (Md.new hs9 hl9 ha9)
    have HB := Lib.hid (HB.out.trans (b9.mono HB.out.size))
    have HM1 := Lib.hid (HM1.out.later b9)
    have HE1 := Lib.hid (HE1.out.later b9)
    have HE2 := Lib.hid (HE2.out.later b9)
    have HM2 := Hnew
    clear Hnew hs9 hl9 ha9 b9
    simp only [EntD.cells]
    go_wp2_with fail
    refine hK.out _ _ ⟨fun _ => HB.out, ?_⟩
    have hHeld := HB.out
    clear hK
    try simp only [Act.put, List.setIfInBounds_toArray, List.set_cons_zero, List.set_cons_succ]
    have HPr := Lib.hid (pair_of HB.out HM1.out HM2.out HE1.out HE2.out (by have h0 := HB0.out; have q26 := T26.out; have q27 := T27.out; have q30 := T30.out; have q31 := T31.out; omega) (by have h0 := HB0.out; have q26 := T26.out; have q27 := T27.out; have q30 := T30.out; have q31 := T31.out; omega) (by have h0 := HB0.out; have q26 := T26.out; have q27 := T27.out; have q30 := T30.out; have q31 := T31.out; omega) (by have h0 := HB0.out; have q26 := T26.out; have q27 := T27.out; have q30 := T30.out; have q31 := T31.out; omega) (by have h0 := HB0.out; have q26 := T26.out; have q27 := T27.out; have q30 := T30.out; have q31 := T31.out; omega))
    have hb1 : wr.heap.size ≤ Z27.heap.size := by have h0 := HB0.out; have q26 := T26.out; have q27 := T27.out; have q30 := T30.out; have q31 := T31.out; omega
    have hb2 : wr.heap.size ≤ Z0.heap.size := by have h0 := HB0.out; have q26 := T26.out; have q27 := T27.out; have q30 := T30.out; have q31 := T31.out; omega
    have hne : Z0.heap.size ≠ Z27.heap.size := by have h0 := HB0.out; have q26 := T26.out; have q27 := T27.out; have q30 := T30.out; have q31 := T31.out; omega
    have HS1 := Lib.hid (below_filled HB.out hb1 (EntD.mk (.slice pD1 mD1 cD1) fmD1 (.slice pqD1 mqD1 cqD1) tsD1 sqD1 kdD1 (.slice pvD1 mvD1 cvD1) rwD1 qlD1 vlD1))
    have HS2 := Lib.hid (below_filled HS1.out hb2 (EntD.mk (.slice pD2 mD2 cD2) fmD2 (.slice pqD2 mqD2 cqD2) tsD2 sqD2 kdD2 (.slice pvD2 mvD2 cvD2) rwD2 qlD2 vlD2))
    have HE3 := Lib.hid (show EBox (filled Z31 (Z27.heap.size) (EntD.mk (.slice pD1 mD1 cD1) fmD1 (.slice pqD1 mqD1 cqD1) tsD1 sqD1 kdD1 (.slice pvD1 mvD1 cvD1) rwD1 qlD1 vlD1)) (Z0.heap.size) zeroD from ((filled_fb Z31 (Z27.heap.size) (EntD.mk (.slice pD1 mD1 cD1) fmD1 (.slice pqD1 mqD1 cqD1) tsD1 sqD1 kdD1 (.slice pvD1 mvD1 cvD1) rwD1 qlD1 vlD1)).block _ (Array.getElem?_eq_some_iff.1 HE2.out).1 hne).trans HE2.out)
    obtain ⟨z0, z1, z2, z3, z4, z5, z6⟩ := HE1.out.cells7
    obtain ⟨f0, f1, f2, f3, f4, f5, f6⟩ := HE1.out.fz7
    simp only [zeroD] at z0 z1 z2 z3 z4 z5 z6
    obtain ⟨y0, y1, y2, y3, y4, y5, y6⟩ := HE3.out.cells7
    obtain ⟨g0, g1, g2, g3, g4, g5, g6⟩ := HE3.out.fz7
    simp only [zeroD, filled] at y0 y1 y2 y3 y4 y5 y6 g0 g1 g2 g3 g4 g5 g6
    clear hHeld hb1 hb2 hne
    refine AnyE.one (i := 12) rfl (by kernel_rfl) (by kernel_rfl) (fun KK hK => ?_)
    go_simp
    refine hK.out _ _ ⟨fun _ => HS1.out, ?_⟩
    clear hK z0 z1 z2 z3 z4 z5 z6 f0 f1 f2 f3 f4 f5 f6
    try simp only [Act.put, List.setIfInBounds_toArray, List.set_cons_zero, List.set_cons_succ]
    refine AnyE.one (i := 13) rfl (by kernel_rfl) (by kernel_rfl) (fun KK hK => ?_)
    go_simp
    refine hK.out _ _ ⟨fun _ => HS2.out, ?_⟩
    clear hK
    refine AnyE.done (by kernel_rfl) (NoPanic.normal ?_) _
    exact hQ.out _ _ _ _ _ HPr.out
  ·go_simp
   have bA := (Below.refl Z26.heap.size Z26).alloc (Nat.le_refl _) (.cells #[.slice none 0 0, .int .i64 0, .slice none 0 0, .int .i64 0, .int .i64 0, .int .i64 0, .slice none 0 0] 40)
   have eA : EBox (Z26.alloc (.cells #[.slice none 0 0, .int .i64 0, .slice none 0 0, .int .i64 0, .int .i64 0, .int .i64 0, .slice none 0 0] 40)) Z26.heap.size zeroD := EBox.new Z26 zeroD
   have tA : (Z26.alloc (.cells #[.slice none 0 0, .int .i64 0, .slice none 0 0, .int .i64 0, .int .i64 0, .int .i64 0, .slice none 0 0] 40)).heap.size = Z26.heap.size + 1 := by simp
   obtain ⟨Z32, hZ⟩ : ∃ z, z = Z26.alloc (.cells #[.slice none 0 0, .int .i64 0, .slice none 0 0, .int .i64 0, .int .i64 0, .int .i64 0, .slice none 0 0] 40) := ⟨_, rfl⟩
   rw [← hZ] at bA eA tA ⊢
   clear hZ
   have T32 := Lib.hid tA
   have HB := Lib.hid (HB.out.trans (bA.mono HB.out.size))
   have HE2 := Lib.hid (HE2.out.later bA)
   have HE1 := Lib.hid eA
   clear bA eA tA
   refine hK.out _ _ ⟨fun _ => HB.out, ?_⟩
   have hHeld := HB.out
   clear hK
   try simp only [Act.put, List.setIfInBounds_toArray, List.set_cons_zero, List.set_cons_succ]
   refine AnyE.one (i := 4) rfl (by kernel_rfl) (by kernel_rfl) (fun KK hK => ?_)
   go_simp
   go_at_call 10
   refine (HEn.out _ HB.out).mono ?_
   rintro e9 Z33 ⟨⟨vr, fmD1, vq, tsD1, sqD1, kdD1, vv, rwD1, qlD1, vlD1⟩, rfl, hs9, hl9, b9, ha9⟩
   obtain ⟨pD1, mD1, cD1, e1⟩ := hl9.1.form
   obtain ⟨pqD1, mqD1, cqD1, e2⟩ := hl9.2.1.form
   obtain ⟨pvD1, mvD1, cvD1, e3⟩ := hl9.2.2.form
   simp only at e1 e2 e3
   subst e1 e2 e3
   have T33 : Hid (Z32.heap.size ≤ Z33.heap.size) := b9.size
   have Hnew := Lib.hid (Md.new hs9 hl9 ha9)
   have HB := Lib.hid (HB.out.trans (b9.mono HB.out.size))
   have HE1 := Lib.hid (HE1.out.later b9)
   have HE2 := Lib.hid (HE2.out.later b9)
   have HM1 := Hnew
   clear Hnew hs9 hl9 ha9 b9
   simp only [EntD.cells]
   go_wp2_with fail
   refine hK.out _ _ ⟨fun _ => HB.out, ?_⟩
   have hHeld := HB.out
   clear hK
   try simp only [Act.put, List.setIfInBounds_toArray, List.set_cons_zero, List.set_cons_succ]
   refine AnyE.one (i := 9) rfl (by kernel_rfl) (by kernel_rfl) (fun KK hK => ?_)
   go_simp
   go_at_call 10
   refine (HEn.out _ HB.out).mono ?_
   rintro e9 Z34 ⟨⟨vr, fmD2, vq, tsD2, sqD2, kdD2, vv, rwD2, qlD2, vlD2⟩, rfl, hs9, hl9, b9, ha9⟩
   obtain ⟨pD2, mD2, cD2, e1⟩ := hl9.1.form
   obtain ⟨pqD2, mqD2, cqD2, e2⟩ := hl9.2.1.form
   obtain ⟨pvD2, mvD2, cvD2, e3⟩ := hl9.2.2.form
   simp only at e1 e2 e3
   subst e1 e2 e3
   have T34 : Hid (Z33.heap.size ≤ Z34.heap.size) := b9.size
   have Hnew := Lib.hid (Md.new hs9 hl9 ha9)
   have HB := Lib.hid (HB.out.trans (b9.mono HB.out.size))
   have HM1 := Lib.hid (HM1.out.later b9)
   have HE1 := Lib.hid (HE1.out.later b9)
   have HE2 := Lib.hid (HE2.out.later b9)
   have HM2 := Hnew
   clear Hnew hs9 hl9 ha9 b9
   simp only [EntD.cells]
   go_wp2_with fail
   refine hK.out _ _ ⟨fun _ => HB.out, ?_⟩
   have hHeld := HB.out
   clear hK
   try simp only [Act.put, List.setIfInBounds_toArray, List.set_cons_zero, List.set_cons_succ]
   have HPr := Lib.hid (pair_of HB.out HM1.out HM2.out HE1.out HE2.out (by have h0 := HB0.out; have q26 := T26.out; have q32 := T32.out; have q33 := T33.out; have q34 := T34.out; omega) (by have h0 := HB0.out; have q26 := T26.out; have q32 := T32.out; have q33 := T33.out; have q34 := T34.out; omega) (by have h0 := HB0.out; have q26 := T26.out; have q32 := T32.out; have q33 := T33.out; have q34 := T34.out; omega) (by have h0 := HB0.out; have q26 := T26.out; have q32 := T32.out; have q33 := T33.out; have q34 := T34.out; omega) (by have h0 := HB0.out; have q26 := T26.out; have q32 := T32.out; have q33 := T33.out; have q34 := T34.out; omega))
   have hb1 : wr.heap.size ≤ Z26.heap.size := by have h0 := HB0.out; have q26 := T26.out; have q32 := T32.out; have q33 := T33.out; have q34 := T34.out; omega
   have hb2 : wr.heap.size ≤ Z0.heap.size := by have h0 := HB0.out; have q26 := T26.out; have q32 := T32.out; have q33 := T33.out; have q34 := T34.out; omega
   have hne : Z0.heap.size ≠ Z26.heap.size := by have h0 := HB0.out; have q26 := T26.out; have q32 := T32.out; have q33 := T33.out; have q34 := T34.out; omega
   have HS1 := Lib.hid (below_filled HB.out hb1 (EntD.mk (.slice pD1 mD1 cD1) fmD1 (.slice pqD1 mqD1 cqD1) tsD1 sqD1 kdD1 (.slice pvD1 mvD1 cvD1) rwD1 qlD1 vlD1))
   have HS2 := Lib.hid (below_filled HS1.out hb2 (EntD.mk (.slice pD2 mD2 cD2) fmD2 (.slice pqD2 mqD2 cqD2) tsD2 sqD2 kdD2 (.slice pvD2 mvD2 cvD2) rwD2 qlD2 vlD2))
   have HE3 := Lib.hid (show EBox (filled Z34 (Z26.heap.size) (EntD.mk (.slice pD1 mD1 cD1) fmD1 (.slice pqD1 mqD1 cqD1) tsD1 sqD1 kdD1 (.slice pvD1 mvD1 cvD1) rwD1 qlD1 vlD1)) (Z0.heap.size) zeroD from ((filled_fb Z34 (Z26.heap.size) (EntD.mk (.slice pD1 mD1 cD1) fmD1 (.slice pqD1 mqD1 cqD1) tsD1 sqD1 kdD1 (.slice pvD1 mvD1 cvD1) rwD1 qlD1 vlD1)).block _ (Array.getElem?_eq_some_iff.1 HE2.out).1 hne).trans HE2.out)
   obtain ⟨z0, z1, z2, z3, z4, z5, z6⟩ := HE1.out.cells7
   obtain ⟨f0, f1, f2, f3, f4, f5, f6⟩ := HE1.out.fz7
   simp only [zeroD] at z0 z1 z2 z3 z4 z5 z6
   obtain ⟨y0, y1, y2, y3, y4, y5, y6⟩ := HE3.out.cells7
   obtain ⟨g0, g1, g2, g3, g4, g5, g6⟩ := HE3.out.fz7
   simp only [zeroD, filled] at y0 y1 y2 y3 y4 y5 y6 g0 g1 g2 g3 g4 g5 g6
   clear hHeld hb1 hb2 hne
   refine AnyE.one (i := 12) rfl (by kernel_rfl) (by kernel_rfl) (fun KK hK => ?_)
   go_simp
   refine hK.out _ _ ⟨fun _ => HS1.out, ?_⟩
   clear hK z0 z1 z2 z3 z4 z5 z6 f0 f1 f2 f3 f4 f5 f6
   try simp only [Act.put, List.setIfInBounds_toArray, List.set_cons_zero, List.set_cons_succ]
   refine AnyE.one (i := 13) rfl (by kernel_rfl) (by kernel_rfl) (fun KK hK => ?_)
   go_simp
   refine hK.out _ _ ⟨fun _ => HS2.out, ?_⟩
   clear hK
   refine AnyE.done (by kernel_rfl) (NoPanic.normal ?_) _
   exact hQ.out _ _ _ _ _ HPr.out
end Go.Proofs.YtchebhafabhabaaGreatDoor
