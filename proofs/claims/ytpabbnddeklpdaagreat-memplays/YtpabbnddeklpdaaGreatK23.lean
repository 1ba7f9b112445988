import Derived.Test.YtpabbnddeklpdaaGreatK22
namespace Go.Proofs.YtpabbnddeklpdaaGreat
open Go.RowKit Go.Shelf
set_option linter.unusedVariables false
set_option linter.unusedSimpArgs false
attribute [local go_sem] Oper.semAt_some

def mp30Ops : Array Oper := #[{ dst := some 119, op := Op.load 3 (Operand.tmp 14), type := 3, pos := "law.go:267", after := #[], guard := none }, { dst := some 120, op := Op.load 27 (Operand.tmp 13), type := 27, pos := "law.go:267", after := #[], guard := none }, { dst := some 121, op := Op.call { callee := Callee.builtin Builtin.len, args := #[Operand.tmp 120], argTypes := #[27] }, type := 3, pos := "law.go:267", after := #[{ on := 1, ground := Ground.data }], guard := none }, { dst := some 122, op := Op.binOp BinOp.geq 3 (Operand.tmp 119) (Operand.tmp 121) 3, type := 4, pos := "law.go:267", after := #[{ on := 0, ground := Ground.data }, { on := 2, ground := Ground.data }], guard := none }, { dst := some 123, op := Op.move (Operand.tmp 122), type := 4, pos := "law.go:267", after := #[{ on := 3, ground := Ground.data }], guard := none }, { dst := some 124, op := Op.load 38 (Operand.tmp 15), type := 38, pos := "law.go:267", after := #[{ on := 4, ground := Ground.guard }], guard := some (4, false) }, { dst := some 125, op := Op.load 27 (Operand.tmp 13), type := 27, pos := "law.go:267", after := #[{ on := 4, ground := Ground.guard }], guard := some (4, false) }, { dst := some 126, op := Op.load 3 (Operand.tmp 14), type := 3, pos := "law.go:267", after := #[{ on := 4, ground := Ground.guard }], guard := some (4, false) }, { dst := some 127, op := Op.indexAddr 27 (Operand.tmp 125) (Operand.tmp 126), type := 0, pos := "law.go:267", after := #[{ on := 6, ground := Ground.data }, { on := 7, ground := Ground.data }, { on := 4, ground := Ground.guard }], guard := some (4, false) }, { dst := some 128, op := Op.load 38 (Operand.tmp 127), type := 38, pos := "law.go:267", after := #[{ on := 8, ground := Ground.data }, { on := 4, ground := Ground.guard }], guard := some (4, false) }, { dst := some 129, op := Op.call { callee := Callee.value (Operand.func 11), args := #[Operand.tmp 124, Operand.tmp 128], argTypes := #[38, 38] }, type := 4, pos := "law.go:267", after := #[{ on := 5, ground := Ground.data }, { on := 9, ground := Ground.data }, { on := 4, ground := Ground.chain }, { on := 4, ground := Ground.guard }], guard := some (4, false) }, { dst := some 130, op := Op.unOp UnOp.not 4 (Operand.tmp 129), type := 4, pos := "law.go:267", after := #[{ on := 10, ground := Ground.data }, { on := 4, ground := Ground.guard }], guard := some (4, false) }, { dst := some 131, op := Op.pick (Operand.tmp 123) (Operand.const (Value.bool true)) (Operand.tmp 130), type := 4, pos := "law.go:267", after := #[{ on := 4, ground := Ground.data }, { on := 11, ground := Ground.data }], guard := none }]
set_option maxRecDepth 100000 in
set_option maxHeartbeats 16000000 in
theorem mp30_region {l' : Nat} {X : World} {bk bw bx bz oz cap mz n : Nat} {x y : EntD} {s0 s1 s2 s3 s4 s5 s6 s7 s8 s9 s10 s11 s12 s16 s17 s18 s19 s20 s21 s22 s23 s24 s25 s26 s27 s28 s29 s30 s31 s32 s33 s34 s35 s36 s37 s38 s39 s40 s41 s42 s43 s44 s45 s46 s47 s48 s49 s50 s51 s52 s53 s54 s55 s56 s57 s58 s59 s60 s61 s62 s63 s64 s65 s66 s67 s68 s69 s70 s71 s72 s73 s74 s75 s76 s77 s78 s79 s80 s81 s82 s83 s84 s85 s86 s87 s88 s89 s90 s91 s92 s93 s94 s95 s96 s97 s98 s99 s100 s101 s102 s103 s104 s105 s106 s107 s108 s109 s110 s111 s112 s113 s114 s115 s116 s117 s118 s119 s120 s121 s122 s123 s124 s125 s126 s127 s128 s129 s130 s131 s132 s133 s134 s135 s136 s137 s138 s139 s140 s141 s142 s143 s144 s145 s146 s147 s148 s149 s150 s151 s152 s153 s154 s155 s156 s157 s158 s159 s160 s161 s162 s163 s164 s165 s166 s167 s168 s169 s170 s171 s172 s173 s174 s175 s176 s177 s178 s179 s180 s181 s182 s183 s184 s185 s186 s187 s188 s189 s190 s191 s192 s193 s194 s195 s196 s197 : Value} (hn : n < mz)
  (hK : X.cell? ⟨bk, 0, none⟩ = some (.int .i64 (n : Int)) ∧ X.cell? ⟨bw, 0, none⟩ = some (.slice (some ⟨bz, oz, none⟩) mz cap) ∧ (X.cell? ⟨bx, 0, none⟩ = some (x.vr) ∧ X.cell? ⟨bx, 1, none⟩ = some (.int .i64 x.fam) ∧ X.cell? ⟨bx, 2, none⟩ = some (x.vq) ∧ X.cell? ⟨bx, 3, none⟩ = some (.int .i64 x.ts) ∧ X.cell? ⟨bx, 4, none⟩ = some (.int .i64 x.seq) ∧ X.cell? ⟨bx, 5, none⟩ = some (.int .i64 x.kind) ∧ X.cell? ⟨bx, 6, none⟩ = some (x.vv)) ∧ (X.cell? ⟨bz, oz + n * 7, none⟩ = some (y.vr) ∧ X.cell? ⟨bz, oz + n * 7 + 1, none⟩ = some (.int .i64 y.fam) ∧ X.cell? ⟨bz, oz + n * 7 + 2, none⟩ = some (y.vq) ∧ X.cell? ⟨bz, oz + n * 7 + 3, none⟩ = some (.int .i64 y.ts) ∧ X.cell? ⟨bz, oz + n * 7 + 4, none⟩ = some (.int .i64 y.seq) ∧ X.cell? ⟨bz, oz + n * 7 + 5, none⟩ = some (.int .i64 y.kind) ∧ X.cell? ⟨bz, oz + n * 7 + 6, none⟩ = some (y.vv)))
  (hSe : Hid (∀ Z, Below X.heap.size X Z → Calls Tryz.prog 11 #[.agg #[x.vr, .int .i64 x.fam, x.vq, .int .i64 x.ts, .int .i64 x.seq, .int .i64 x.kind, x.vv], .agg #[y.vr, .int .i64 y.fam, y.vq, .int .i64 y.ts, .int .i64 y.seq, .int .i64 y.kind, y.vv]] Z fun r w' => r = .returned (.bool true) ∧ Below Z.heap.size Z w')) :
  (Code.region 30 mp30Ops true).wpIn (Fence.wide.inRound l') 9 Tryz.prog (fun e a' w' => match e with | .normal => a' = ({ tmps := List.toArray (s0 :: s1 :: s2 :: s3 :: s4 :: s5 :: s6 :: s7 :: s8 :: s9 :: s10 :: s11 :: s12 :: (.pointer (some ⟨bw, 0, none⟩) : Value) :: (.pointer (some ⟨bk, 0, none⟩) : Value) :: (.pointer (some ⟨bx, 0, none⟩) : Value) :: s16 :: s17 :: s18 :: s19 :: s20 :: s21 :: s22 :: s23 :: s24 :: s25 :: s26 :: s27 :: s28 :: s29 :: s30 :: s31 :: s32 :: s33 :: s34 :: s35 :: s36 :: s37 :: s38 :: s39 :: s40 :: s41 :: s42 :: s43 :: s44 :: s45 :: s46 :: s47 :: s48 :: s49 :: s50 :: s51 :: s52 :: s53 :: s54 :: s55 :: s56 :: s57 :: s58 :: s59 :: s60 :: s61 :: s62 :: s63 :: s64 :: s65 :: s66 :: s67 :: s68 :: s69 :: s70 :: s71 :: s72 :: s73 :: s74 :: s75 :: s76 :: s77 :: s78 :: s79 :: s80 :: s81 :: s82 :: s83 :: s84 :: s85 :: s86 :: s87 :: s88 :: s89 :: s90 :: s91 :: s92 :: s93 :: s94 :: s95 :: s96 :: s97 :: s98 :: s99 :: s100 :: s101 :: s102 :: s103 :: s104 :: s105 :: s106 :: s107 :: s108 :: s109 :: s110 :: s111 :: s112 :: s113 :: s114 :: s115 :: s116 :: s117 :: s118 :: (.int .i64 (n : Int) : Value) :: (.slice (some ⟨bz, oz, none⟩) mz cap : Value) :: (.int .i64 (mz : Int) : Value) :: (.bool false : Value) :: (.bool false : Value) :: (.agg #[x.vr, .int .i64 x.fam, x.vq, .int .i64 x.ts, .int .i64 x.seq, .int .i64 x.kind, x.vv] : Value) :: (.slice (some ⟨bz, oz, none⟩) mz cap : Value) :: (.int .i64 (n : Int) : Value) :: (.pointer (some ⟨bz, oz + n * 7, none⟩) : Value) :: (.agg #[y.vr, .int .i64 y.fam, y.vq, .int .i64 y.ts, .int .i64 y.seq, .int .i64 y.kind, y.vv] : Value) :: (.bool true : Value) :: (.bool false : Value) :: (.bool false : Value) :: s132 :: s133 :: s134 :: s135 :: s136 :: s137 :: s138 :: s139 :: s140 :: s141 :: s142 :: s143 :: s144 :: s145 :: s146 :: s147 :: s148 :: s149 :: s150 :: s151 :: s152 :: s153 :: s154 :: s155 :: s156 :: s157 :: s158 :: s159 :: s160 :: s161 :: s162 :: s163 :: s164 :: s165 :: s166 :: s167 :: s168 :: s169 :: s170 :: s171 :: s172 :: s173 :: s174 :: s175 :: s176 :: s177 :: s178 :: s179 :: s180 :: s181 :: s182 :: s183 :: s184 :: s185 :: s186 :: s187 :: s188 :: s189 :: s190 :: s191 :: s192 :: s193 :: s194 :: s195 :: s196 :: s197 :: []), defers := [] } : Act) ∧ Below X.heap.size X w' | _ => False) ({ tmps := List.toArray (s0 :: s1 :: s2 :: s3 :: s4 :: s5 :: s6 :: s7 :: s8 :: s9 :: s10 :: s11 :: s12 :: (.pointer (some ⟨bw, 0, none⟩) : Value) :: (.pointer (some ⟨bk, 0, none⟩) : Value) :: (.pointer (some ⟨bx, 0, none⟩) : Value) :: s16 :: s17 :: s18 :: s19 :: s20 :: s21 :: s22 :: s23 :: s24 :: s25 :: s26 :: s27 :: s28 :: s29 :: s30 :: s31 :: s32 :: s33 :: s34 :: s35 :: s36 :: s37 :: s38 :: s39 :: s40 :: s41 :: s42 :: s43 :: s44 :: s45 :: s46 :: s47 :: s48 :: s49 :: s50 :: s51 :: s52 :: s53 :: s54 :: s55 :: s56 :: s57 :: s58 :: s59 :: s60 :: s61 :: s62 :: s63 :: s64 :: s65 :: s66 :: s67 :: s68 :: s69 :: s70 :: s71 :: s72 :: s73 :: s74 :: s75 :: s76 :: s77 :: s78 :: s79 :: s80 :: s81 :: s82 :: s83 :: s84 :: s85 :: s86 :: s87 :: s88 :: s89 :: s90 :: s91 :: s92 :: s93 :: s94 :: s95 :: s96 :: s97 :: s98 :: s99 :: s100 :: s101 :: s102 :: s103 :: s104 :: s105 :: s106 :: s107 :: s108 :: s109 :: s110 :: s111 :: s112 :: s113 :: s114 :: s115 :: s116 :: s117 :: s118 :: s119 :: s120 :: s121 :: s122 :: s123 :: s124 :: s125 :: s126 :: s127 :: s128 :: s129 :: s130 :: s131 :: s132 :: s133 :: s134 :: s135 :: s136 :: s137 :: s138 :: s139 :: s140 :: s141 :: s142 :: s143 :: s144 :: s145 :: s146 :: s147 :: s148 :: s149 :: s150 :: s151 :: s152 :: s153 :: s154 :: s155 :: s156 :: s157 :: s158 :: s159 :: s160 :: s161 :: s162 :: s163 :: s164 :: s165 :: s166 :: s167 :: s168 :: s169 :: s170 :: s171 :: s172 :: s173 :: s174 :: s175 :: s176 :: s177 :: s178 :: s179 :: s180 :: s181 :: s182 :: s183 :: s184 :: s185 :: s186 :: s187 :: s188 :: s189 :: s190 :: s191 :: s192 :: s193 :: s194 :: s195 :: s196 :: s197 :: []), defers := [] } : Act) X := by
 have HK := Lib.hid hK
 have hn0 : Hid ((0 : Int) ≤ (n : Int)) := by unfold Hid; omega
 have hn1 : Hid ((n : Int) < (mz : Int)) := by unfold Hid; omega
 have hn2 : Hid ((0 : Int) < (mz : Int)) := by unfold Hid; omega
 have hd1 : Hid (decide ((mz : Int) ≤ (n : Int)) = false) := by unfold Hid; simp; omega
 have hd2 : Hid (decide (mz ≤ n) = false) := by unfold Hid; simp; omega
 clear hK hn
 unfold mp30Ops
 refine wpIn_region_any (by kernel_rfl) (anyIn8 (by kernel_rfl) (fun ⟨_, _, h⟩ => h) _ _ _ _ (AnyE.any (S := fun wx => Below X.heap.size X wx) (E := fun _ => true) _ _ _ _ ?_))
 have BD : Below X.heap.size X X.drew := (Below.refl _ _).drew
 have hHeld : Below X.heap.size X X.drew := BD
 have HB := Lib.hid BD
 obtain ⟨Z0, hZ0⟩ : ∃ z, z = X.drew := ⟨_, rfl⟩
 change AnyE _ _ _ _ _ _ _ _ _ X.drew
 rw [← hZ0] at HB hHeld ⊢
 clear hZ0 BD
 refine AnyE.take (i := 0) (.int .i64 (n : Int)) rfl (by kernel_rfl) (by kernel_rfl) (by kernel_rfl) (by kernel_rfl) (fun _ _ _ h => h) (.inl ⟨by kernel_rfl, fun wy hy => by (have q0 := (hy.cell (p := ⟨bk, 0, none⟩) (World.block_lt_of_cell? _ _ HK.out.1)).trans HK.out.1; go_simp; done)⟩) hHeld ?_
 try simp only [Act.put, List.setIfInBounds_toArray, List.set_cons_zero, List.set_cons_succ]
 refine AnyE.take (i := 1) (.slice (some ⟨bz, oz, none⟩) mz cap) rfl (by kernel_rfl) (by kernel_rfl) (by kernel_rfl) (by kernel_rfl) (fun _ _ _ h => h) (.inl ⟨by kernel_rfl, fun wy hy => by (have q1 := (hy.cell (p := ⟨bw, 0, none⟩) (World.block_lt_of_cell? _ _ HK.out.2.1)).trans HK.out.2.1; go_simp; done)⟩) hHeld ?_
 try simp only [Act.put, List.setIfInBounds_toArray, List.set_cons_zero, List.set_cons_succ]
 refine AnyE.take (i := 2) (.int .i64 (mz : Int)) rfl (by kernel_rfl) (by kernel_rfl) (by kernel_rfl) (by kernel_rfl) (fun _ _ _ h => h) (.inl ⟨by kernel_rfl, fun wy hy => by (go_simp; done)⟩) hHeld ?_
 try simp only [Act.put, List.setIfInBounds_toArray, List.set_cons_zero, List.set_cons_succ]
 refine AnyE.take (i := 3) (.bool false) rfl (by kernel_rfl) (by kernel_rfl) (by kernel_rfl) (by kernel_rfl) (fun _ _ _ h => h) (.inl ⟨by kernel_rfl, fun wy hy => by (have n0 := hn0.out; have n1 := hn1.out; have n2 := hn2.out; have d1 := hd1.out; have d2 := hd2.out; go_simp; done)⟩) hHeld ?_
 try simp only [Act.put, List.setIfInBounds_toArray, List.set_cons_zero, List.set_cons_succ]
 refine AnyE.take (i := 4) (.bool false) rfl (by kernel_rfl) (by kernel_rfl) (by kernel_rfl) (by kernel_rfl) (fun _ _ _ h => h) (.inl ⟨by kernel_rfl, fun wy hy => by (go_simp; done)⟩) hHeld ?_
 try simp only [Act.put, List.setIfInBounds_toArray, List.set_cons_zero, List.set_cons_succ]
 refine AnyE.take (i := 5) (.agg #[x.vr, .int .i64 x.fam, x.vq, .int .i64 x.ts, .int .i64 x.seq, .int .i64 x.kind, x.vv]) rfl (by kernel_rfl) (by kernel_rfl) (by kernel_rfl) (by kernel_rfl) (fun _ _ _ h => h) (.inl ⟨by kernel_rfl, fun wy hy => by (have c0 := (hy.cell (p := ⟨bx, 0, none⟩) (World.block_lt_of_cell? _ _ HK.out.2.2.1.1)).trans HK.out.2.2.1.1; have c1 := (hy.cell (p := ⟨bx, 1, none⟩) (World.block_lt_of_cell? _ _ HK.out.2.2.1.2.1)).trans HK.out.2.2.1.2.1; have c2 := (hy.cell (p := ⟨bx, 2, none⟩) (World.block_lt_of_cell? _ _ HK.out.2.2.1.2.2.1)).trans HK.out.2.2.1.2.2.1; have c3 := (hy.cell (p := ⟨bx, 3, none⟩) (World.block_lt_of_cell? _ _ HK.out.2.2.1.2.2.2.1)).trans HK.out.2.2.1.2.2.2.1; have c4 := (hy.cell (p := ⟨bx, 4, none⟩) (World.block_lt_of_cell? _ _ HK.out.2.2.1.2.2.2.2.1)).trans HK.out.2.2.1.2.2.2.2.1; have c5 := (hy.cell (p := ⟨bx, 5, none⟩) (World.block_lt_of_cell? _ _ HK.out.2.2.1.2.2.2.2.2.1)).trans HK.out.2.2.1.2.2.2.2.2.1; have c6 := (hy.cell (p := ⟨bx, 6, none⟩) (World.block_lt_of_cell? _ _ HK.out.2.2.1.2.2.2.2.2.2)).trans HK.out.2.2.1.2.2.2.2.2.2; go_simp; done)⟩) hHeld ?_
 try simp only [Act.put, List.setIfInBounds_toArray, List.set_cons_zero, List.set_cons_succ]
 refine AnyE.take (i := 6) (.slice (some ⟨bz, oz, none⟩) mz cap) rfl (by kernel_rfl) (by kernel_rfl) (by kernel_rfl) (by kernel_rfl) (fun _ _ _ h => h) (.inl ⟨by kernel_rfl, fun wy hy => by (have q1 := (hy.cell (p := ⟨bw, 0, none⟩) (World.block_lt_of_cell? _ _ HK.out.2.1)).trans HK.out.2.1; go_simp; done)⟩) hHeld ?_
 try simp only [Act.put, List.setIfInBounds_toArray, List.set_cons_zero, List.set_cons_succ]
 refine AnyE.take (i := 7) (.int .i64 (n : Int)) rfl (by kernel_rfl) (by kernel_rfl) (by kernel_rfl) (by kernel_rfl) (fun _ _ _ h => h) (.inl ⟨by kernel_rfl, fun wy hy => by (have q0 := (hy.cell (p := ⟨bk, 0, none⟩) (World.block_lt_of_cell? _ _ HK.out.1)).trans HK.out.1; go_simp; done)⟩) hHeld ?_
 try simp only [Act.put, List.setIfInBounds_toArray, List.set_cons_zero, List.set_cons_succ]
 refine AnyE.take (i := 8) (.pointer (some ⟨bz, oz + n * 7, none⟩)) rfl (by kernel_rfl) (by kernel_rfl) (by kernel_rfl) (by kernel_rfl) (fun _ _ _ h => h) (.inl ⟨by kernel_rfl, fun wy hy => by (have n0 := hn0.out; have n1 := hn1.out; have n2 := hn2.out; go_simp; done)⟩) hHeld ?_
 try simp only [Act.put, List.setIfInBounds_toArray, List.set_cons_zero, List.set_cons_succ]
 refine AnyE.take (i := 9) (.agg #[y.vr, .int .i64 y.fam, y.vq, .int .i64 y.ts, .int .i64 y.seq, .int .i64 y.kind, y.vv]) rfl (by kernel_rfl) (by kernel_rfl) (by kernel_rfl) (by kernel_rfl) (fun _ _ _ h => h) (.inl ⟨by kernel_rfl, fun wy hy => by (have c0 := (hy.cell (p := ⟨bz, oz + n * 7, none⟩) (World.block_lt_of_cell? _ _ HK.out.2.2.2.1)).trans HK.out.2.2.2.1; have c1 := (hy.cell (p := ⟨bz, oz + n * 7 + 1, none⟩) (World.block_lt_of_cell? _ _ HK.out.2.2.2.2.1)).trans HK.out.2.2.2.2.1; have c2 := (hy.cell (p := ⟨bz, oz + n * 7 + 2, none⟩) (World.block_lt_of_cell? _ _ HK.out.2.2.2.2.2.1)).trans HK.out.2.2.2.2.2.1; have c3 := (hy.cell (p := ⟨bz, oz + n * 7 + 3, none⟩) (World.block_lt_of_cell? _ _ HK.out.2.2.2.2.2.2.1)).trans HK.out.2.2.2.2.2.2.1; have c4 := (hy.cell (p := ⟨bz, oz + n * 7 + 4, none⟩) (World.block_lt_of_cell? _ _ HK.out.2.2.2.2.2.2.2.1)).trans HK.out.2.2.2.2.2.2.2.1; have c5 := (hy.cell (p := ⟨bz, oz + n * 7 + 5, none⟩) (World.block_lt_of_cell? _ _ HK.out.2.2.2.2.2.2.2.2.1)).trans HK.out.2.2.2.2.2.2.2.2.1; have c6 := (hy.cell (p := ⟨bz, oz + n * 7 + 6, none⟩) (World.block_lt_of_cell? _ _ HK.out.2.2.2.2.2.2.2.2.2)).trans HK.out.2.2.2.2.2.2.2.2.2; go_simp; done)⟩) hHeld ?_
 try simp only [Act.put, List.setIfInBounds_toArray, List.set_cons_zero, List.set_cons_succ]
 refine AnyE.one (i := 10) rfl (by kernel_rfl) (by kernel_rfl) (fun KK hK => ?_)
 go_simp
 go_at_call 11
 refine (hSe.out _ HB.out).mono ?_
 rintro e9 w1 ⟨rfl, b1⟩
 have HB := Lib.hid (HB.out.trans (b1.mono HB.out.size))
 clear b1
 go_wp2_with fail
 refine hK.out _ _ ⟨fun _ => HB.out, ?_⟩
 have hHeld := HB.out
 clear hK
 try simp only [Act.put, List.setIfInBounds_toArray, List.set_cons_zero, List.set_cons_succ]
 refine AnyE.take (i := 11) (.bool false) rfl (by kernel_rfl) (by kernel_rfl) (by kernel_rfl) (by kernel_rfl) (fun _ _ _ h => h) (.inl ⟨by kernel_rfl, fun wy hy => by (go_simp; done)⟩) hHeld ?_
 try simp only [Act.put, List.setIfInBounds_toArray, List.set_cons_zero, List.set_cons_succ]
 refine AnyE.take (i := 12) (.bool false) rfl (by kernel_rfl) (by kernel_rfl) (by kernel_rfl) (by kernel_rfl) (fun _ _ _ h => h) (.inl ⟨by kernel_rfl, fun wy hy => by (go_simp; done)⟩) hHeld ?_
 try simp only [Act.put, List.setIfInBounds_toArray, List.set_cons_zero, List.set_cons_succ]
 refine AnyE.done (by kernel_rfl) ?_ _
 exact ⟨rfl, HB.out⟩
end Go.Proofs.YtpabbnddeklpdaaGreat

namespace Go.Proofs.YtpabbnddeklpdaaGreat
open Go.RowKit Go.Shelf
set_option linter.unusedVariables false

structure Duo (W : World) (aB tA bB tB g : Nat) (XA XB FO : Nat → Prop) (LA RA : List EntD) (lA : Value) (fA : Bool) (LB RB : List EntD) (lB : Value) (fB : Bool) : Prop where
 a : Pl W aB tA XA LA RA lA fA
 b : Pl W bB tB XB LB RB lB fB
 fu : FuB W g FO
 fc : ∀ k, FO k → CellsAt W k
 af : ∀ k, PlB aB tA XA k → ¬ FO k
 bf : ∀ k, PlB bB tB XB k → ¬ FO k
 ab : ∀ k, PlB aB tA XA k → ¬ PlB bB tB XB k
variable {W W' : World} {aB tA bB tB g n lo : Nat} {XA XB FO XA' FO' : Nat → Prop} {LA RA LB RB LA' RA' : List EntD} {lA lB lA' : Value} {fA fB fA' : Bool}
theorem Duo.gm (h : Duo W aB tA bB tB g XA XB FO LA RA lA fA LB RB lB fB) : Gm W aB tA g XA FO LA RA lA fA := ⟨h.a, h.fu, h.fc, h.af⟩
theorem Duo.swap (h : Duo W aB tA bB tB g XA XB FO LA RA lA fA LB RB lB fB) : Duo W bB tB aB tA g XB XA FO LB RB lB fB LA RA lA fA := ⟨h.b, h.a, h.fu, h.fc, h.bf, h.af, fun k h1 h2 => h.ab k h2 h1⟩
theorem Pl.all_lt {w : World} {pB tB : Nat} {X : Nat → Prop} {L R : List EntD} {lv : Value} {f : Bool} (h : Pl w pB tB X L R lv f) : ∀ k, PlB pB tB X k → k < w.heap.size := by
 rintro k (e | e | e)
 ·have := h.plt; omega
 ·have := h.tlt; omega
 ·exact h.lt k e
theorem Duo.step (h : Duo W aB tA bB tB g XA XB FO LA RA lA fA LB RB lB fB) (gm : Gm W' aB tA g XA' FO' LA' RA' lA' fA') (go : GoTo W W' aB tA XA FO XA' FO') : Duo W' aB tA bB tB g XA' XB FO' LA' RA' lA' fA' LB RB lB fB := by
 have hlt := h.b.all_lt
 refine ⟨gm.pl, h.b.keptC (H := PlB bB tB XB) (KpC.of_fb go.fb (fun k hk e => ?_)) (fun _ h => h), gm.fu, gm.fc, gm.ap, fun k hk e => ?_, fun k h1 h2 => ?_⟩
 ·rcases e with e | e | e
  ·exact h.ab k (.inl e) hk
  ·exact h.ab k (.inr (.inl e)) hk
  ·exact h.bf k hk e
 ·rcases go.nf k e with q | q
  ·exact h.bf k hk q
  ·have := hlt k hk; omega
 ·rcases h1 with e | e | e
  ·exact h.ab k (.inl e) h2
  ·exact h.ab k (.inr (.inl e)) h2
  ·rcases go.nx k e with q | q
   ·exact h.ab k (.inr (.inr q)) h2
   ·have := hlt k h2; omega
theorem Duo.keptC {H : Nat → Prop} (h : Duo W aB tA bB tB g XA XB FO LA RA lA fA LB RB lB fB) (k : KpC H W W') (hH : ∀ i, (PlB aB tA XA i ∨ PlB bB tB XB i ∨ FO i) → H i) : Duo W' aB tA bB tB g XA XB FO LA RA lA fA LB RB lB fB :=
 ⟨h.a.keptC k (fun i hi => hH i (.inl hi)), h.b.keptC k (fun i hi => hH i (.inr (.inl hi))), h.fu.keptC h.fc k (fun i hi => hH i (.inr (.inr hi))), fun i hi => (h.fc i hi).kept k (hH i (.inr (.inr hi))), h.af, h.bf, h.ab⟩
def Tw (W : World) (aB bB g n lo : Nat) : Prop := ∃ (tA tB : Nat) (XA XB FO : Nat → Prop) (LA RA : List EntD) (lA : Value) (fA : Bool) (LB RB : List EntD) (lB : Value) (fB : Bool), Duo W aB tA bB tB g XA XB FO LA RA lA fA LB RB lB fB ∧ LA.length ≤ n ∧ LB.length ≤ n ∧ ∀ k, (PlB aB tA XA k ∨ PlB bB tB XB k ∨ FO k) → lo ≤ k
theorem Tw.swap (h : Tw W aB bB g n lo) : Tw W bB aB g n lo := by
 obtain ⟨tA, tB, XA, XB, FO, LA, RA, lA, fA, LB, RB, lB, fB, h, h1, h2, h3⟩ := h
 exact ⟨tB, tA, XB, XA, FO, LB, RB, lB, fB, LA, RA, lA, fA, h.swap, h2, h1, fun k hk => h3 k (by
  rcases hk with q | q | q
  ·exact .inr (.inl q)
  ·exact .inl q
  ·exact .inr (.inr q))⟩
theorem Tw.later (h : Tw W aB bB g n lo) (b : Below W.heap.size W W') : Tw W' aB bB g n lo := by
 obtain ⟨tA, tB, XA, XB, FO, LA, RA, lA, fA, LB, RB, lB, fB, h, h1, h2, h3⟩ := h
 exact ⟨tA, tB, XA, XB, FO, LA, RA, lA, fA, LB, RB, lB, fB, h.keptC (H := fun _ => True) (KpC.of_below b) (fun _ _ => trivial), h1, h2, h3⟩
theorem Tw.mono {m : Nat} (h : Tw W aB bB g n lo) (hm : n ≤ m) : Tw W aB bB g m lo := by
 obtain ⟨tA, tB, XA, XB, FO, LA, RA, lA, fA, LB, RB, lB, fB, h, h1, h2, h3⟩ := h
 exact ⟨tA, tB, XA, XB, FO, LA, RA, lA, fA, LB, RB, lB, fB, h, Nat.le_trans h1 hm, Nat.le_trans h2 hm, h3⟩
theorem Tw.fst (h : Tw W aB bB g n lo) : ∃ (tP : Nat) (X FO : Nat → Prop) (L R : List EntD) (lv : Value) (f : Bool), Gm W aB tP g X FO L R lv f ∧ L.length ≤ n ∧ (∀ k, (PlB aB tP X k ∨ FO k) → lo ≤ k) ∧
  ∀ (W' : World) (X' FO' : Nat → Prop) (L' R' : List EntD) (lv' : Value) (f' : Bool) (m : Nat), n ≤ m → Gm W' aB tP g X' FO' L' R' lv' f' → GoTo W W' aB tP X FO X' FO' → L'.length ≤ m → Tw W' aB bB g m lo := by
 obtain ⟨tA, tB, XA, XB, FO, LA, RA, lA, fA, LB, RB, lB, fB, h, h1, h2, h3⟩ := h
 refine ⟨tA, XA, FO, LA, RA, lA, fA, h.gm, h1, fun k hk => h3 k (hk.imp id .inr), fun W' X' FO' L' R' lv' f' m hm gm go hl => ⟨tA, tB, X', XB, FO', L', R', lv', f', LB, RB, lB, fB, h.step gm go, hl, Nat.le_trans h2 hm, fun k hk => ?_⟩⟩
 have hs : lo ≤ W.heap.size := by have := h3 aB (.inl (.inl rfl)); have := h.a.plt; omega
 rcases hk with (q | q | q) | q | q
 ·exact h3 k (.inl (.inl q))
 ·exact h3 k (.inl (.inr (.inl q)))
 ·rcases go.nx k q with q | q
  ·exact h3 k (.inl (.inr (.inr q)))
  ·omega
 ·exact h3 k (.inr (.inl q))
 ·rcases go.nf k q with q | q
  ·exact h3 k (.inr (.inr q))
  ·omega
structure RdS (SE : Nat → Prop) (W : World) (a : Option Addr) (c : Nat) (ss : List StepD) : Prop where
 cap : ss.length ≤ c ∧ c ≤ maxLen
 cel : ∀ i s, ss[i]? = some s → ∃ b off, a = some ⟨b, off, none⟩ ∧ SE b ∧ ∀ j u, s.cells[j]? = some u → W.cell? ⟨b, off + i * 17 + j, none⟩ = some u
 ok : ∀ s ∈ ss, OkG SE W s.e ∧ OkG SE W s.g
 nn : ss ≠ [] → ∃ b off, a = some ⟨b, off, none⟩
theorem RdS.keptC {SE : Nat → Prop} {W W' : World} {a : Option Addr} {c : Nat} {ss : List StepD} (h : RdS SE W a c ss) (k : KpC SE W W') : RdS SE W' a c ss := by
 refine ⟨h.cap, fun i s hs => ?_, fun s hs => ⟨(h.ok s hs).1.keptC k, (h.ok s hs).2.keptC k⟩, h.nn⟩
 obtain ⟨b, off, e, hb, hc⟩ := h.cel i s hs
 exact ⟨b, off, e, hb, fun j u hu => k.cell hb (hc j u hu)⟩
def mkD8 (D : Nat) : Deferred := { target := .collected D, args := #[] }
def MkQ (w : World) (B : Nat) (Ds : List Nat) : Prop := Ds.Nodup ∧ ∀ D ∈ Ds, B ≤ D ∧ w.heap[D]? = some (.deferred (some []))
theorem MkQ.nil (w : World) (B : Nat) : MkQ w B [] := ⟨List.nodup_nil, fun D h => (List.not_mem_nil h).elim⟩
theorem MkQ.lt {w : World} {B : Nat} {Ds : List Nat} (h : MkQ w B Ds) : ∀ D ∈ Ds, D < w.heap.size := fun D hD => (Array.getElem?_eq_some_iff.1 (h.2 D hD).2).1
theorem MkQ.fb {w w' : World} {B : Nat} {Ds : List Nat} {C : Nat → Prop} (h : MkQ w B Ds) (f : Fb w w' C) (hc : ∀ k, C k → k < w.heap.size → CellsAt w k) : MkQ w' B Ds :=
 ⟨h.1, fun D hD => ⟨(h.2 D hD).1, (f.block D (h.lt D hD) (fun e => by
  obtain ⟨o, h1, h2⟩ := hc D e (h.lt D hD)
  rw [(h.2 D hD).2] at h1
  cases h1
  cases h2)).trans (h.2 D hD).2⟩⟩
theorem MkQ.cons {w : World} {B D : Nat} {Ds : List Nat} (h : MkQ w B Ds) (hB : B ≤ D) (hd : w.heap[D]? = some (.deferred (some []))) (hn : D ∉ Ds) : MkQ w B (D :: Ds) :=
 ⟨List.nodup_cons.2 ⟨hn, h.1⟩, fun E hE => by
  rcases List.mem_cons.1 hE with e | e
  ·subst e; exact ⟨hB, hd⟩
  ·exact h.2 E e⟩
structure Shut8 (B : Nat) (w w' : World) : Prop where
 below : Below B w w'
 cells : ∀ (i : Nat) (o : Obj), w.heap[i]? = some o → o.isCells = true → w'.heap[i]? = some o
theorem leaves_marks8 {fn : Func} {tmps : Array Value} {R : Ending → World → Prop} {n B : Nat} : ∀ (Ds : List Nat) (w : World), B ≤ w.heap.size → MkQ w B Ds →
  (∀ w', Shut8 B w w' → LeavesIn Fence.wide n Tryz.prog fn tmps R [] .returning w') → LeavesInM Fence.wide n Tryz.prog fn tmps R (Ds.map mkD8) .returning w
 | [], w, _, _, h => h w ⟨Below.refl _ _, fun _ _ h _ => h⟩
 | D :: Ds, w, hB, ⟨hnd, hm⟩, h => by
  have hD := hm D (by simp)
  have hlt := (Array.getElem?_eq_some_iff.1 hD.2).1
  refine ⟨by simp, .inl ⟨D, _, rfl, run_takeDeferred hD.2, ?_⟩⟩
  refine leaves_marks8 Ds _ (by simpa using hB) ⟨(List.nodup_cons.1 hnd).2, fun E hE => ?_⟩ fun w' hs => h w' ?_
  ·have := hm E (by simp [hE])
   refine ⟨this.1, ?_⟩
   rw [World.putObj_heap_other (fun e => (List.nodup_cons.1 hnd).1 (by rw [← e]; exact hE))]
   exact this.2
  ·have b0 : Below B w (w.putObj D (.deferred none)) := ⟨rfl, rfl, rfl, by simp, fun k hk => World.putObj_heap_other (by omega)⟩
   refine ⟨b0.trans hs.below, fun i o hi ho => hs.cells i o ?_ ho⟩
   rw [World.putObj_heap_other (fun e => by subst e; rw [hi] at hD; have := hD.2; cases this; cases ho)]
   exact hi
theorem arr_of8 (T : Array Value) (n : Nat) (h : T.size = n) : T = ((List.range n).map (fun k => T.getD k undef)).toArray := by
 subst h
 apply Array.ext
 ·simp
 ·intro i h1 h2
  simp [h1]
end Go.Proofs.YtpabbnddeklpdaaGreat

namespace Go.Proofs.YtpabbnddeklpdaaGreat
open Go.RowKit Go.Shelf
set_option linter.unusedVariables false

def TwK (W : World) (aB bB g n lo : Nat) (K : Nat → Prop) (tA : Nat) : Prop := ∃ (tB : Nat) (XA XB FO : Nat → Prop) (LA RA : List EntD) (lA : Value) (fA : Bool) (LB RB : List EntD) (lB : Value) (fB : Bool), Duo W aB tA bB tB g XA XB FO LA RA lA fA LB RB lB fB ∧ LA.length ≤ n ∧ LB.length ≤ n ∧ (∀ k, (PlB aB tA XA k ∨ PlB bB tB XB k ∨ FO k) → lo ≤ k) ∧ ∀ k, K k → k < W.heap.size ∧ ¬ (PlB aB tA XA k ∨ PlB bB tB XB k ∨ FO k)
variable {W W' : World} {aB bB g n lo tA : Nat} {K : Nat → Prop}
theorem TwK.tw (h : TwK W aB bB g n lo K tA) : Tw W aB bB g n lo := by
 obtain ⟨tB, XA, XB, FO, LA, RA, lA, fA, LB, RB, lB, fB, h, h1, h2, h3, h4⟩ := h
 exact ⟨tA, tB, XA, XB, FO, LA, RA, lA, fA, LB, RB, lB, fB, h, h1, h2, h3⟩
theorem TwK.mono {m : Nat} (h : TwK W aB bB g n lo K tA) (hm : n ≤ m) : TwK W aB bB g m lo K tA := by
 obtain ⟨tB, XA, XB, FO, LA, RA, lA, fA, LB, RB, lB, fB, h, h1, h2, h3, h4⟩ := h
 exact ⟨tB, XA, XB, FO, LA, RA, lA, fA, LB, RB, lB, fB, h, Nat.le_trans h1 hm, Nat.le_trans h2 hm, h3, h4⟩
theorem TwK.fst (h : TwK W aB bB g n lo K tA) : ∃ (X FO : Nat → Prop) (L R : List EntD) (lv : Value) (f : Bool), Gm W aB tA g X FO L R lv f ∧ L.length ≤ n ∧ (∀ k, (PlB aB tA X k ∨ FO k) → lo ≤ k ∧ ¬ K k) ∧
  ∀ (W' : World) (X' FO' : Nat → Prop) (L' R' : List EntD) (lv' : Value) (f' : Bool) (m : Nat), n ≤ m → Gm W' aB tA g X' FO' L' R' lv' f' → GoTo W W' aB tA X FO X' FO' → L'.length ≤ m → TwK W' aB bB g m lo K tA := by
 obtain ⟨tB, XA, XB, FO, LA, RA, lA, fA, LB, RB, lB, fB, h, h1, h2, h3, h4⟩ := h
 refine ⟨XA, FO, LA, RA, lA, fA, h.gm, h1, fun k hk => ⟨h3 k (hk.imp id .inr), fun e => (h4 k e).2 (hk.imp id .inr)⟩, fun W' X' FO' L' R' lv' f' m hm gm go hl => ⟨tB, X', XB, FO', L', R', lv', f', LB, RB, lB, fB, h.step gm go, hl, Nat.le_trans h2 hm, fun k hk => ?_, fun k hk => ⟨Nat.lt_of_lt_of_le (h4 k hk).1 go.fb.size, fun e => ?_⟩⟩⟩
 ·have hs : lo ≤ W.heap.size := by have := h3 aB (.inl (.inl rfl)); have := h.a.plt; omega
  rcases hk with (q | q | q) | q | q
  ·exact h3 k (.inl (.inl q))
  ·exact h3 k (.inl (.inr (.inl q)))
  ·rcases go.nx k q with q | q
   ·exact h3 k (.inl (.inr (.inr q)))
   ·omega
  ·exact h3 k (.inr (.inl q))
  ·rcases go.nf k q with q | q
   ·exact h3 k (.inr (.inr q))
   ·omega
 ·have hk4 := h4 k hk
  rcases e with (q | q | q) | q | q
  ·exact hk4.2 (.inl (.inl q))
  ·exact hk4.2 (.inl (.inr (.inl q)))
  ·rcases go.nx k q with q | q
   ·exact hk4.2 (.inl (.inr (.inr q)))
   ·omega
  ·exact hk4.2 (.inr (.inl q))
  ·rcases go.nf k q with q | q
   ·exact hk4.2 (.inr (.inr q))
   ·omega
theorem Tw.keepK (h : Tw W aB bB g n lo) (hA : W.cell? ⟨aB, 0, none⟩ = some (.pointer (some ⟨tA, 0, none⟩))) {Y K : Nat → Prop} {X6 : World} (b6 : Below W.heap.size W X6) (hY : ∀ k, Y k → W.heap.size ≤ k) (hK : ∀ k, K k → W.heap.size ≤ k ∧ k < X6.heap.size ∧ ¬ Y k) :
  ∃ FO, FuB X6 g FO ∧ (∀ k, FO k → lo ≤ k ∧ k < W.heap.size ∧ CellsAt X6 k) ∧
  ∀ (X7 : World) (F2 : Nat → Prop), FuB X7 g F2 → Fb X6 X7 (fun k => FO k ∨ Y k) → (∀ k, F2 k → FO k ∨ Y k ∨ X6.heap.size ≤ k) → TwK X7 aB bB g n lo K tA := by
 obtain ⟨tA', tB, XA, XB, FO, LA, RA, lA, fA, LB, RB, lB, fB, h, h1, h2, h3⟩ := h
 have hq := h.a.cells.1
 rw [hA] at hq
 cases hq
 clear hA
 have h6 := h.keptC (H := fun _ => True) (KpC.of_below b6) (fun _ _ => trivial)
 have hlo : lo ≤ W.heap.size := by have := h3 aB (.inl (.inl rfl)); have := h.a.plt; omega
 have hs6 := b6.size
 refine ⟨FO, h6.fu, fun k hk => ⟨h3 k (.inr (.inr hk)), (h.fc k hk).lt, h6.fc k hk⟩, fun X7 F2 f1 f2 f3 => ?_⟩
 have hs7 := f2.size
 obtain ⟨FO2, gm, hF2⟩ := h6.gm.full f1 f2 (fun k hk e => by have := hY k hk; have := h.a.all_lt k e; omega) f3
 have hB : ∀ k, PlB bB tB XB k → k < W.heap.size := h.b.all_lt
 have hA : ∀ k, PlB aB tA XA k → k < W.heap.size := h.a.all_lt
 have nF : ∀ k, FO2 k → FO k ∨ W.heap.size ≤ k := fun k hk => by
  rcases hF2 k hk with q | q | q
  ·exact .inl q
  ·exact .inr (hY k q)
  ·exact .inr (by omega)
 refine ⟨tB, XA, XB, FO2, LA, RA, lA, fA, LB, RB, lB, fB, ⟨gm.pl, h6.b.keptC (H := PlB bB tB XB) (KpC.of_fb f2 (fun k hk e => ?_)) (fun _ h => h), gm.fu, gm.fc, gm.ap, fun k hk e => ?_, h.ab⟩, h1, h2, fun k hk => ?_, fun k hk => ⟨by have := hK k hk; omega, fun e => ?_⟩⟩
 ·rcases e with e | e
  ·exact h.bf k hk e
  ·have := hY k e; have := hB k hk; omega
 ·rcases nF k e with q | q
  ·exact h.bf k hk q
  ·have := hB k hk; omega
 ·rcases hk with q | q | q
  ·exact h3 k (.inl q)
  ·exact h3 k (.inr (.inl q))
  ·rcases nF k q with q | q
   ·exact h3 k (.inr (.inr q))
   ·omega
 ·have hk1 := hK k hk
  rcases e with q | q | q
  ·have := hA k q; omega
  ·have := hB k q; omega
  ·rcases hF2 k q with q | q | q
   ·have := (h.fc k q).lt; omega
   ·exact hk1.2.2 q
   ·omega
theorem RdG.rng {G : Nat → Prop} {w : World} {v : Value} {bs : List Nat} (h : RdG G w v bs) : RdG (fun i => G i ∧ i < w.heap.size) w v bs :=
 ⟨h.1, fun b off m c e hm => ⟨⟨(h.2 b off m c e hm).1, by obtain ⟨cur, fr, hc⟩ := (h.2 b off m c e hm).2; exact (Array.getElem?_eq_some_iff.1 hc).1⟩, (h.2 b off m c e hm).2⟩⟩
theorem EOk.rng {G : Nat → Prop} {w : World} {e : EntD} (h : EOk G w e) : EOk (fun i => G i ∧ i < w.heap.size) w e := ⟨h.1.rng, h.2.1.rng, h.2.2.rng⟩
theorem E3.cellsAt {w : World} {D : EntD} (h : E3 w D) : ∀ k, D.blk k → CellsAt w k := by
 intro k hk
 rcases hk with hk | hk | hk
 ·obtain ⟨a, n, c, xs, e, -, o⟩ := h.r
  obtain ⟨_, cur, hc⟩ := own_at o.2 (e ▸ hk)
  exact ⟨_, hc, rfl⟩
 ·obtain ⟨a, n, c, xs, e, -, o⟩ := h.q
  obtain ⟨_, cur, hc⟩ := own_at o.2 (e ▸ hk)
  exact ⟨_, hc, rfl⟩
 ·obtain ⟨a, n, c, xs, e, -, o⟩ := h.v
  obtain ⟨_, cur, hc⟩ := own_at o.2 (e ▸ hk)
  exact ⟨_, hc, rfl⟩
structure KeepB (A B dB Bt Bf tA : Nat) (D2 x0 : EntD) (W : World) : Prop where
 eb : EBox W dB D2
 ld : LaidE W A D2
 bt : Bxd W Bt 25 (.pointer (some ⟨tA, 0, none⟩))
 bf : EBox W Bf x0
 ok : EOk (fun k => A ≤ k ∧ k < B) W x0
 inn : (A ≤ dB ∧ dB < B) ∧ (A ≤ Bt ∧ Bt < B) ∧ (A ≤ Bf ∧ Bf < B) ∧ ∀ k, D2.blk k → A ≤ k ∧ k < B
theorem KeepB.keptC {A B dB Bt Bf tA : Nat} {D2 x0 : EntD} {W Z : World} (h : KeepB A B dB Bt Bf tA D2 x0 W) (k : KpC (fun k => A ≤ k ∧ k < B) W Z) : KeepB A B dB Bt Bf tA D2 x0 Z :=
 ⟨k.cells _ _ h.eb rfl h.inn.1, h.ld.keptC8 k h.inn.2.2.2, k.cells _ _ h.bt rfl h.inn.2.1, k.cells _ _ h.bf rfl h.inn.2.2.1, h.ok.keptC k, h.inn⟩
end Go.Proofs.YtpabbnddeklpdaaGreat
