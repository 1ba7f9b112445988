import Derived.Test.YtpabbnddeklpdaaGreatK21
namespace Go.Proofs.YtpabbnddeklpdaaGreat
open Go.RowKit Go.Shelf
set_option linter.unusedVariables false
set_option linter.unusedSimpArgs false
attribute [local go_sem] Oper.semAt_some

def mp26Ops : Array Oper := #[{ dst := some 111, op := Op.move (Operand.tmp 7), type := 24, pos := "law.go:264", after := #[], guard := none }, { dst := some 112, op := Op.nilCheck (Operand.tmp 111), type := 0, pos := "law.go:264", after := #[{ on := 0, ground := Ground.data }], guard := none }, { dst := some 113, op := Op.fieldAddr 31 (Operand.tmp 112) 1, type := 0, pos := "law.go:264", after := #[{ on := 1, ground := Ground.data }], guard := none }, { dst := some 114, op := Op.load 29 (Operand.tmp 113), type := 29, pos := "law.go:264", after := #[{ on := 2, ground := Ground.data }], guard := none }, { dst := some 115, op := Op.load 38 (Operand.tmp 11), type := 38, pos := "law.go:264", after := #[], guard := none }, { dst := some 116, op := Op.call { callee := Callee.value (Operand.func 10), args := #[Operand.tmp 114, Operand.tmp 115], argTypes := #[29, 38] }, type := 27, pos := "law.go:264", after := #[{ on := 3, ground := Ground.data }, { on := 4, ground := Ground.data }], guard := none }, { dst := some 13, op := Op.alloc 27, type := 0, pos := "law.go:264", after := #[], guard := none }, { dst := none, op := Op.store 27 (Operand.tmp 13) (Operand.tmp 116), type := 0, pos := "law.go:264", after := #[{ on := 6, ground := Ground.data }, { on := 5, ground := Ground.data }, { on := 5, ground := Ground.chain }, { on := 0, ground := Ground.phase }, { on := 1, ground := Ground.phase }, { on := 2, ground := Ground.phase }, { on := 3, ground := Ground.phase }, { on := 4, ground := Ground.phase }, { on := 5, ground := Ground.phase }, { on := 6, ground := Ground.phase }], guard := none }]
set_option maxRecDepth 100000 in
set_option maxHeartbeats 16000000 in
theorem mp26_region {wr : World} {X : Nat → Prop} {R : List EntD} {p : EntD → Bool} {f : Bool} {x : EntD} {pB b2 m c : Nat} {a : Option Addr} {ds : List Deferred} {Q : Exit → Act → World → Prop} {s0 s1 s2 s3 s4 s5 s6 s8 s9 s10 s12 s13 s14 s15 s16 s17 s18 s19 s20 s21 s22 s23 s24 s25 s26 s27 s28 s29 s30 s31 s32 s33 s34 s35 s36 s37 s38 s39 s40 s41 s42 s43 s44 s45 s46 s47 s48 s49 s50 s51 s52 s53 s54 s55 s56 s57 s58 s59 s60 s61 s62 s63 s64 s65 s66 s67 s68 s69 s70 s71 s72 s73 s74 s75 s76 s77 s78 s79 s80 s81 s82 s83 s84 s85 s86 s87 s88 s89 s90 s91 s92 s93 s94 s95 s96 s97 s98 s99 s100 s101 s102 s103 s104 s105 s106 s107 s108 s109 s110 s111 s112 s113 s114 s115 s116 s117 s118 s119 s120 s121 s122 s123 s124 s125 s126 s127 s128 s129 s130 s131 s132 s133 s134 s135 s136 s137 s138 s139 s140 s141 s142 s143 s144 s145 s146 s147 s148 s149 s150 s151 s152 s153 s154 s155 s156 s157 s158 s159 s160 s161 s162 s163 s164 s165 s166 s167 s168 s169 s170 s171 s172 s173 s174 s175 s176 s177 s178 s179 s180 s181 s182 s183 s184 s185 s186 s187 s188 s189 s190 s191 s192 s193 s194 s195 s196 s197 : Value}
  (hPc : wr.cell? ⟨pB, 1, none⟩ = some (.slice a m c) ∧ wr.cell? ⟨pB, 2, none⟩ = some (.bool f)) (hDc : wr.cell? ⟨b2, 0, none⟩ = some (x.vr) ∧ wr.cell? ⟨b2, 1, none⟩ = some (.int .i64 x.fam) ∧ wr.cell? ⟨b2, 2, none⟩ = some (x.vq) ∧ wr.cell? ⟨b2, 3, none⟩ = some (.int .i64 x.ts) ∧ wr.cell? ⟨b2, 4, none⟩ = some (.int .i64 x.seq) ∧ wr.cell? ⟨b2, 5, none⟩ = some (.int .i64 x.kind) ∧ wr.cell? ⟨b2, 6, none⟩ = some (x.vv)) (hX : Hid (∀ k, X k → k < wr.heap.size)) (hR : Hid (RdX X wr (.slice a m c) R))
  (hA : Hid (∀ Z, Below wr.heap.size wr Z → Calls Tryz.prog 10 #[.agg #[.slice a m c, .bool f], .agg #[x.vr, .int .i64 x.fam, x.vq, .int .i64 x.ts, .int .i64 x.seq, .int .i64 x.kind, x.vv]] Z (fun z w' => ∃ v, z = .returned v ∧ RdL w' v (R.dropWhile p) ∧ (∀ k, v.ownBlock = some k → (Value.slice a m c).ownBlock = some k) ∧ Below Z.heap.size Z w')))
  (hQ : Hid (∀ (a' : Option Addr) (m' k' : Nat) (b9 : Nat) (Z : World), Gi2 wr Z X (R.dropWhile p) (.slice a' m' k') b9 → Q .normal ({ tmps := List.toArray (s0 :: s1 :: s2 :: s3 :: s4 :: s5 :: s6 :: (.pointer (some ⟨pB, 0, none⟩) : Value) :: s8 :: s9 :: s10 :: (.pointer (some ⟨b2, 0, none⟩) : Value) :: s12 :: (.pointer (some ⟨b9, 0, none⟩) : Value) :: s14 :: s15 :: s16 :: s17 :: s18 :: s19 :: s20 :: s21 :: s22 :: s23 :: s24 :: s25 :: s26 :: s27 :: s28 :: s29 :: s30 :: s31 :: s32 :: s33 :: s34 :: s35 :: s36 :: s37 :: s38 :: s39 :: s40 :: s41 :: s42 :: s43 :: s44 :: s45 :: s46 :: s47 :: s48 :: s49 :: s50 :: s51 :: s52 :: s53 :: s54 :: s55 :: s56 :: s57 :: s58 :: s59 :: s60 :: s61 :: s62 :: s63 :: s64 :: s65 :: s66 :: s67 :: s68 :: s69 :: s70 :: s71 :: s72 :: s73 :: s74 :: s75 :: s76 :: s77 :: s78 :: s79 :: s80 :: s81 :: s82 :: s83 :: s84 :: s85 :: s86 :: s87 :: s88 :: s89 :: s90 :: s91 :: s92 :: s93 :: s94 :: s95 :: s96 :: s97 :: s98 :: s99 :: s100 :: s101 :: s102 :: s103 :: s104 :: s105 :: s106 :: s107 :: s108 :: s109 :: s110 :: (.pointer (some ⟨pB, 0, none⟩) : Value) :: (.pointer (some ⟨pB, 0, none⟩) : Value) :: (.pointer (some ⟨pB, 1, none⟩) : Value) :: (.agg #[.slice a m c, .bool f] : Value) :: (.agg #[x.vr, .int .i64 x.fam, x.vq, .int .i64 x.ts, .int .i64 x.seq, .int .i64 x.kind, x.vv] : Value) :: ((.slice a' m' k') : Value) :: s117 :: s118 :: s119 :: s120 :: s121 :: s122 :: s123 :: s124 :: s125 :: s126 :: s127 :: s128 :: s129 :: s130 :: s131 :: s132 :: s133 :: s134 :: s135 :: s136 :: s137 :: s138 :: s139 :: s140 :: s141 :: s142 :: s143 :: s144 :: s145 :: s146 :: s147 :: s148 :: s149 :: s150 :: s151 :: s152 :: s153 :: s154 :: s155 :: s156 :: s157 :: s158 :: s159 :: s160 :: s161 :: s162 :: s163 :: s164 :: s165 :: s166 :: s167 :: s168 :: s169 :: s170 :: s171 :: s172 :: s173 :: s174 :: s175 :: s176 :: s177 :: s178 :: s179 :: s180 :: s181 :: s182 :: s183 :: s184 :: s185 :: s186 :: s187 :: s188 :: s189 :: s190 :: s191 :: s192 :: s193 :: s194 :: s195 :: s196 :: s197 :: []), defers := ds } : Act) Z)) : Code.wp Tryz.prog (Code.region 26 mp26Ops true) Q ({ tmps := List.toArray (s0 :: s1 :: s2 :: s3 :: s4 :: s5 :: s6 :: (.pointer (some ⟨pB, 0, none⟩) : Value) :: s8 :: s9 :: s10 :: (.pointer (some ⟨b2, 0, none⟩) : Value) :: s12 :: s13 :: s14 :: s15 :: s16 :: s17 :: s18 :: s19 :: s20 :: s21 :: s22 :: s23 :: s24 :: s25 :: s26 :: s27 :: s28 :: s29 :: s30 :: s31 :: s32 :: s33 :: s34 :: s35 :: s36 :: s37 :: s38 :: s39 :: s40 :: s41 :: s42 :: s43 :: s44 :: s45 :: s46 :: s47 :: s48 :: s49 :: s50 :: s51 :: s52 :: s53 :: s54 :: s55 :: s56 :: s57 :: s58 :: s59 :: s60 :: s61 :: s62 :: s63 :: s64 :: s65 :: s66 :: s67 :: s68 :: s69 :: s70 :: s71 :: s72 :: s73 :: s74 :: s75 :: s76 :: s77 :: s78 :: s79 :: s80 :: s81 :: s82 :: s83 :: s84 :: s85 :: s86 :: s87 :: s88 :: s89 :: s90 :: s91 :: s92 :: s93 :: s94 :: s95 :: s96 :: s97 :: s98 :: s99 :: s100 :: s101 :: s102 :: s103 :: s104 :: s105 :: s106 :: s107 :: s108 :: s109 :: s110 :: s111 :: s112 :: s113 :: s114 :: s115 :: s116 :: s117 :: s118 :: s119 :: s120 :: s121 :: s122 :: s123 :: s124 :: s125 :: s126 :: s127 :: s128 :: s129 :: s130 :: s131 :: s132 :: s133 :: s134 :: s135 :: s136 :: s137 :: s138 :: s139 :: s140 :: s141 :: s142 :: s143 :: s144 :: s145 :: s146 :: s147 :: s148 :: s149 :: s150 :: s151 :: s152 :: s153 :: s154 :: s155 :: s156 :: s157 :: s158 :: s159 :: s160 :: s161 :: s162 :: s163 :: s164 :: s165 :: s166 :: s167 :: s168 :: s169 :: s170 :: s171 :: s172 :: s173 :: s174 :: s175 :: s176 :: s177 :: s178 :: s179 :: s180 :: s181 :: s182 :: s183 :: s184 :: s185 :: s186 :: s187 :: s188 :: s189 :: s190 :: s191 :: s192 :: s193 :: s194 :: s195 :: s196 :: s197 :: []), defers := ds } : Act) wr := by
 have HPc := Lib.hid hPc
 have HDc := Lib.hid hDc
 clear hPc hDc
 unfold mp26Ops
 have BD : Below wr.heap.size wr wr.drew := (Below.refl _ _).drew
 refine wp_region_noPanic ?_
 refine wp_region_anyE (S := fun wx => Below wr.heap.size wr wx) (E := fun _ => true) (by kernel_rfl) ?_
 have hHeld : Below wr.heap.size wr wr.drew := BD
 have HB := Lib.hid BD
 obtain ⟨Z0, hZ0⟩ : ∃ z, z = wr.drew := ⟨_, rfl⟩
 rw [← hZ0] at HB hHeld ⊢
 clear hZ0 BD
 refine AnyE.take (i := 0) (.pointer (some ⟨pB, 0, none⟩)) rfl (by kernel_rfl) (by kernel_rfl) (by kernel_rfl) (by kernel_rfl) (fun _ _ _ h => h) (.inl ⟨by kernel_rfl, fun wy hy => by (go_simp; done)⟩) hHeld ?_
 try simp only [Act.put, List.setIfInBounds_toArray, List.set_cons_zero, List.set_cons_succ]
 refine AnyE.take (i := 1) (.pointer (some ⟨pB, 0, none⟩)) rfl (by kernel_rfl) (by kernel_rfl) (by kernel_rfl) (by kernel_rfl) (fun _ _ _ h => h) (.inl ⟨by kernel_rfl, fun wy hy => by (go_simp; done)⟩) hHeld ?_
 try simp only [Act.put, List.setIfInBounds_toArray, List.set_cons_zero, List.set_cons_succ]
 refine AnyE.take (i := 2) (.pointer (some ⟨pB, 1, none⟩)) rfl (by kernel_rfl) (by kernel_rfl) (by kernel_rfl) (by kernel_rfl) (fun _ _ _ h => h) (.inl ⟨by kernel_rfl, fun wy hy => by (go_simp; done)⟩) hHeld ?_
 try simp only [Act.put, List.setIfInBounds_toArray, List.set_cons_zero, List.set_cons_succ]
 refine AnyE.take (i := 3) (.agg #[.slice a m c, .bool f]) rfl (by kernel_rfl) (by kernel_rfl) (by kernel_rfl) (by kernel_rfl) (fun _ _ _ h => h) (.inl ⟨by kernel_rfl, fun wy hy => by (have q0 := (hy.cell (p := ⟨pB, 1, none⟩) (World.block_lt_of_cell? _ _ HPc.out.1)).trans HPc.out.1; have q1 := (hy.cell (p := ⟨pB, 2, none⟩) (World.block_lt_of_cell? _ _ HPc.out.2)).trans HPc.out.2; go_simp; done)⟩) hHeld ?_
 try simp only [Act.put, List.setIfInBounds_toArray, List.set_cons_zero, List.set_cons_succ]
 refine AnyE.take (i := 4) (.agg #[x.vr, .int .i64 x.fam, x.vq, .int .i64 x.ts, .int .i64 x.seq, .int .i64 x.kind, x.vv]) rfl (by kernel_rfl) (by kernel_rfl) (by kernel_rfl) (by kernel_rfl) (fun _ _ _ h => h) (.inl ⟨by kernel_rfl, fun wy hy => by (have c0 := (hy.cell (p := ⟨b2, 0, none⟩) (World.block_lt_of_cell? _ _ HDc.out.1)).trans HDc.out.1; have c1 := (hy.cell (p := ⟨b2, 1, none⟩) (World.block_lt_of_cell? _ _ HDc.out.2.1)).trans HDc.out.2.1; have c2 := (hy.cell (p := ⟨b2, 2, none⟩) (World.block_lt_of_cell? _ _ HDc.out.2.2.1)).trans HDc.out.2.2.1; have c3 := (hy.cell (p := ⟨b2, 3, none⟩) (World.block_lt_of_cell? _ _ HDc.out.2.2.2.1)).trans HDc.out.2.2.2.1; have c4 := (hy.cell (p := ⟨b2, 4, none⟩) (World.block_lt_of_cell? _ _ HDc.out.2.2.2.2.1)).trans HDc.out.2.2.2.2.1; have c5 := (hy.cell (p := ⟨b2, 5, none⟩) (World.block_lt_of_cell? _ _ HDc.out.2.2.2.2.2.1)).trans HDc.out.2.2.2.2.2.1; have c6 := (hy.cell (p := ⟨b2, 6, none⟩) (World.block_lt_of_cell? _ _ HDc.out.2.2.2.2.2.2)).trans HDc.out.2.2.2.2.2.2; go_simp; done)⟩) hHeld ?_
 try simp only [Act.put, List.setIfInBounds_toArray, List.set_cons_zero, List.set_cons_succ]
 refine AnyE.twoF (i := 5) (j := 6) rfl rfl (by kernel_rfl) (by kernel_rfl) (by kernel_rfl) (fun KK hK => ?_) (fun KK hK => ?_)
 ·go_simp
  go_at_call 10
  refine (hA.out _ HB.out).mono ?_
  rintro e9 Z1 ⟨v, rfl, rd, rl, b1⟩
  obtain ⟨a', k', rfl⟩ := rd.slice
  obtain ⟨m', hm'⟩ : ∃ m', m' = (R.dropWhile p).length := ⟨_, rfl⟩
  rw [← hm'] at rd rl ⊢
  have HR := Lib.hid (And.intro rd (And.intro rl b1))
  have HZ := Lib.hid HB.out
  have HB := Lib.hid (HB.out.trans (b1.mono HB.out.size))
  clear rd rl b1 hm'
  go_wp2_with fail
  refine hK.out _ _ ⟨fun _ => HB.out, ?_⟩
  have hHeld := HB.out
  clear hK
  try simp only [Act.put, List.setIfInBounds_toArray, List.set_cons_zero, List.set_cons_succ]
  refine AnyE.one (i := 6) rfl (by kernel_rfl) (by kernel_rfl) (fun KK hK => ?_)
  go_simp
  have bA := (Below.refl Z1.heap.size Z1).alloc (Nat.le_refl _) (.cells #[.slice none 0 0] 27)
  have eA : Bxd (Z1.alloc (.cells #[.slice none 0 0] 27)) Z1.heap.size 27 (.slice none 0 0) := Bxd.new Z1 _ _
  have tA : (Z1.alloc (.cells #[.slice none 0 0] 27)).heap.size = Z1.heap.size + 1 := by simp
  obtain ⟨Z2, hZ⟩ : ∃ z, z = Z1.alloc (.cells #[.slice none 0 0] 27) := ⟨_, rfl⟩
  rw [← hZ] at bA eA tA ⊢
  clear hZ
  have HE := Lib.hid (And.intro eA (And.intro tA bA))
  have HA9 := Lib.hid HB.out
  have HB := Lib.hid (HB.out.trans (bA.mono HB.out.size))
  clear bA eA tA
  refine hK.out _ _ ⟨fun _ => HB.out, ?_⟩
  have hHeld := HB.out
  clear hK
  try simp only [Act.put, List.setIfInBounds_toArray, List.set_cons_zero, List.set_cons_succ]
  have HX9 := Lib.hid (HE.out.1)
  have z0 := HX9.out.cell
  have f0 := HX9.out.fz
  have HD9 := Lib.hid (gi2_of (HZ.out.trans ((HR.out.2.2.trans (HE.out.2.2.mono HR.out.2.2.size)).mono HZ.out.size)) (((hR.out.keptC (KpC.of_below HZ.out)).drop HR.out.2.2 HR.out.1 HR.out.2.1).keptC (KpC.of_below HE.out.2.2)) HE.out.1 (by have := HZ.out.size; have := HR.out.2.2.size; omega) hX.out)
  refine AnyE.one (i := 7) rfl (by kernel_rfl) (by kernel_rfl) (fun KK hK => ?_)
  go_simp
  refine hK.out _ _ ⟨fun _ => HD9.out.bel, ?_⟩
  clear hK z0 f0
  try simp only [Act.put, List.setIfInBounds_toArray, List.set_cons_zero, List.set_cons_succ]
  refine AnyE.done (by kernel_rfl) (NoPanic.normal ?_) _
  exact hQ.out _ _ _ _ _ HD9.out
 ·go_simp
  have bA := (Below.refl Z0.heap.size Z0).alloc (Nat.le_refl _) (.cells #[.slice none 0 0] 27)
  have eA : Bxd (Z0.alloc (.cells #[.slice none 0 0] 27)) Z0.heap.size 27 (.slice none 0 0) := Bxd.new Z0 _ _
  have tA : (Z0.alloc (.cells #[.slice none 0 0] 27)).heap.size = Z0.heap.size + 1 := by simp
  obtain ⟨Z1, hZ⟩ : ∃ z, z = Z0.alloc (.cells #[.slice none 0 0] 27) := ⟨_, rfl⟩
  rw [← hZ] at bA eA tA ⊢
  clear hZ
  have HE := Lib.hid (And.intro eA (And.intro tA bA))
  have HA9 := Lib.hid HB.out
  have HB := Lib.hid (HB.out.trans (bA.mono HB.out.size))
  clear bA eA tA
  refine hK.out _ _ ⟨fun _ => HB.out, ?_⟩
  have hHeld := HB.out
  clear hK
  try simp only [Act.put, List.setIfInBounds_toArray, List.set_cons_zero, List.set_cons_succ]
  refine AnyE.one (i := 5) rfl (by kernel_rfl) (by kernel_rfl) (fun KK hK => ?_)
  go_simp
  go_at_call 10
  refine (hA.out _ HB.out).mono ?_
  rintro e9 Z2 ⟨v, rfl, rd, rl, b1⟩
  obtain ⟨a', k', rfl⟩ := rd.slice
  obtain ⟨m', hm'⟩ : ∃ m', m' = (R.dropWhile p).length := ⟨_, rfl⟩
  rw [← hm'] at rd rl ⊢
  have HR := Lib.hid (And.intro rd (And.intro rl b1))
  have HZ := Lib.hid HB.out
  have HB := Lib.hid (HB.out.trans (b1.mono HB.out.size))
  clear rd rl b1 hm'
  go_wp2_with fail
  refine hK.out _ _ ⟨fun _ => HB.out, ?_⟩
  have hHeld := HB.out
  clear hK
  try simp only [Act.put, List.setIfInBounds_toArray, List.set_cons_zero, List.set_cons_succ]
  have HX9 := Lib.hid (Bxd.keep HE.out.1 (HR.out.2.2.block _ HE.out.1.lt))
  have z0 := HX9.out.cell
  have f0 := HX9.out.fz
  have HD9 := Lib.hid (gi2_of (HZ.out.trans (HR.out.2.2.mono HZ.out.size)) ((hR.out.keptC (KpC.of_below HZ.out)).drop HR.out.2.2 HR.out.1 HR.out.2.1) (Bxd.keep HE.out.1 (HR.out.2.2.block _ HE.out.1.lt)) HA9.out.size hX.out)
  refine AnyE.one (i := 7) rfl (by kernel_rfl) (by kernel_rfl) (fun KK hK => ?_)
  go_simp
  refine hK.out _ _ ⟨fun _ => HD9.out.bel, ?_⟩
  clear hK z0 f0
  try simp only [Act.put, List.setIfInBounds_toArray, List.set_cons_zero, List.set_cons_succ]
  refine AnyE.done (by kernel_rfl) (NoPanic.normal ?_) _
  exact hQ.out _ _ _ _ _ HD9.out
end Go.Proofs.YtpabbnddeklpdaaGreat

namespace Go.Proofs.YtpabbnddeklpdaaGreat
open Go.RowKit Go.Shelf
set_option linter.unusedVariables false
set_option linter.unusedSimpArgs false
attribute [local go_sem] Oper.semAt_some

def mp18Ops : Array Oper := #[{ dst := some 69, op := Op.move (Operand.tmp 7), type := 24, pos := "law.go:255", after := #[], guard := none }, { dst := some 70, op := Op.nilCheck (Operand.tmp 69), type := 0, pos := "law.go:255", after := #[{ on := 0, ground := Ground.data }], guard := none }, { dst := some 71, op := Op.fieldAddr 31 (Operand.tmp 70) 0, type := 0, pos := "law.go:255", after := #[{ on := 1, ground := Ground.data }], guard := none }, { dst := some 72, op := Op.load 25 (Operand.tmp 71), type := 25, pos := "law.go:255", after := #[{ on := 2, ground := Ground.data }], guard := none }, { dst := some 73, op := Op.load 38 (Operand.tmp 9), type := 38, pos := "law.go:255", after := #[], guard := none }, { dst := some 74, op := Op.call { callee := Callee.value (Operand.func 7), args := #[Operand.tmp 72, Operand.tmp 73], argTypes := #[25, 38] }, type := 43, pos := "law.go:255", after := #[{ on := 3, ground := Ground.data }, { on := 4, ground := Ground.data }], guard := none }, { dst := some 10, op := Op.assign (Operand.tmp 74), type := 43, pos := "law.go:255", after := #[{ on := 5, ground := Ground.data }, { on := 5, ground := Ground.chain }, { on := 0, ground := Ground.phase }, { on := 1, ground := Ground.phase }, { on := 2, ground := Ground.phase }, { on := 3, ground := Ground.phase }, { on := 4, ground := Ground.phase }, { on := 5, ground := Ground.phase }], guard := none }]
set_option maxRecDepth 100000 in
set_option maxHeartbeats 16000000 in
theorem mp18_region {wr : World} {x : EntD} {pB tB b1 : Nat} {ds : List Deferred} {Q : Exit → Act → World → Prop} {s0 s1 s2 s3 s4 s5 s6 s8 s10 s11 s12 s13 s14 s15 s16 s17 s18 s19 s20 s21 s22 s23 s24 s25 s26 s27 s28 s29 s30 s31 s32 s33 s34 s35 s36 s37 s38 s39 s40 s41 s42 s43 s44 s45 s46 s47 s48 s49 s50 s51 s52 s53 s54 s55 s56 s57 s58 s59 s60 s61 s62 s63 s64 s65 s66 s67 s68 s69 s70 s71 s72 s73 s74 s75 s76 s77 s78 s79 s80 s81 s82 s83 s84 s85 s86 s87 s88 s89 s90 s91 s92 s93 s94 s95 s96 s97 s98 s99 s100 s101 s102 s103 s104 s105 s106 s107 s108 s109 s110 s111 s112 s113 s114 s115 s116 s117 s118 s119 s120 s121 s122 s123 s124 s125 s126 s127 s128 s129 s130 s131 s132 s133 s134 s135 s136 s137 s138 s139 s140 s141 s142 s143 s144 s145 s146 s147 s148 s149 s150 s151 s152 s153 s154 s155 s156 s157 s158 s159 s160 s161 s162 s163 s164 s165 s166 s167 s168 s169 s170 s171 s172 s173 s174 s175 s176 s177 s178 s179 s180 s181 s182 s183 s184 s185 s186 s187 s188 s189 s190 s191 s192 s193 s194 s195 s196 s197 : Value}
  (hPc : wr.cell? ⟨pB, 0, none⟩ = some (.pointer (some ⟨tB, 0, none⟩))) (hDc : wr.cell? ⟨b1, 0, none⟩ = some (x.vr) ∧ wr.cell? ⟨b1, 1, none⟩ = some (.int .i64 x.fam) ∧ wr.cell? ⟨b1, 2, none⟩ = some (x.vq) ∧ wr.cell? ⟨b1, 3, none⟩ = some (.int .i64 x.ts) ∧ wr.cell? ⟨b1, 4, none⟩ = some (.int .i64 x.seq) ∧ wr.cell? ⟨b1, 5, none⟩ = some (.int .i64 x.kind) ∧ wr.cell? ⟨b1, 6, none⟩ = some (x.vv))
  (hA : Hid (∀ Z, Below wr.heap.size wr Z → Calls Tryz.prog 7 #[.pointer (some ⟨tB, 0, none⟩), .agg #[x.vr, .int .i64 x.fam, x.vq, .int .i64 x.ts, .int .i64 x.seq, .int .i64 x.kind, x.vv]] Z (fun z w' => ∃ Bf x0, z = .returned (.func (.func 25) #[] #[.pointer (some ⟨Z.heap.size, 0, none⟩), .pointer (some ⟨Bf, 0, none⟩)]) ∧ Bxd w' Z.heap.size 25 (.pointer (some ⟨tB, 0, none⟩)) ∧ EBox w' Bf x0 ∧ EntD.Same x0 { x with vv := .slice none 0 0, val := [] } ∧ EOk (fun i => Z.heap.size ≤ i) w' x0 ∧ Below Z.heap.size Z w' ∧ Z.heap.size + 2 ≤ w'.heap.size ∧ Z.heap.size + 2 ≤ Bf ∧ Bf < w'.heap.size)))
  (hQ : Hid (∀ (Bt Bf : Nat) (x0 : EntD) (Zs Z : World), Gi4 wr Z tB x x0 Bt Bf → Q .normal ({ tmps := List.toArray (s0 :: s1 :: s2 :: s3 :: s4 :: s5 :: s6 :: (.pointer (some ⟨pB, 0, none⟩) : Value) :: s8 :: (.pointer (some ⟨b1, 0, none⟩) : Value) :: ((.func (.func 25) #[] #[.pointer (some ⟨Bt, 0, none⟩), .pointer (some ⟨Bf, 0, none⟩)]) : Value) :: s11 :: s12 :: s13 :: s14 :: s15 :: s16 :: s17 :: s18 :: s19 :: s20 :: s21 :: s22 :: s23 :: s24 :: s25 :: s26 :: s27 :: s28 :: s29 :: s30 :: s31 :: s32 :: s33 :: s34 :: s35 :: s36 :: s37 :: s38 :: s39 :: s40 :: s41 :: s42 :: s43 :: s44 :: s45 :: s46 :: s47 :: s48 :: s49 :: s50 :: s51 :: s52 :: s53 :: s54 :: s55 :: s56 :: s57 :: s58 :: s59 :: s60 :: s61 :: s62 :: s63 :: s64 :: s65 :: s66 :: s67 :: s68 :: (.pointer (some ⟨pB, 0, none⟩) : Value) :: (.pointer (some ⟨pB, 0, none⟩) : Value) :: (.pointer (some ⟨pB, 0, none⟩) : Value) :: (.pointer (some ⟨tB, 0, none⟩) : Value) :: (.agg #[x.vr, .int .i64 x.fam, x.vq, .int .i64 x.ts, .int .i64 x.seq, .int .i64 x.kind, x.vv] : Value) :: ((.func (.func 25) #[] #[.pointer (some ⟨Bt, 0, none⟩), .pointer (some ⟨Bf, 0, none⟩)]) : Value) :: s75 :: s76 :: s77 :: s78 :: s79 :: s80 :: s81 :: s82 :: s83 :: s84 :: s85 :: s86 :: s87 :: s88 :: s89 :: s90 :: s91 :: s92 :: s93 :: s94 :: s95 :: s96 :: s97 :: s98 :: s99 :: s100 :: s101 :: s102 :: s103 :: s104 :: s105 :: s106 :: s107 :: s108 :: s109 :: s110 :: s111 :: s112 :: s113 :: s114 :: s115 :: s116 :: s117 :: s118 :: s119 :: s120 :: s121 :: s122 :: s123 :: s124 :: s125 :: s126 :: s127 :: s128 :: s129 :: s130 :: s131 :: s132 :: s133 :: s134 :: s135 :: s136 :: s137 :: s138 :: s139 :: s140 :: s141 :: s142 :: s143 :: s144 :: s145 :: s146 :: s147 :: s148 :: s149 :: s150 :: s151 :: s152 :: s153 :: s154 :: s155 :: s156 :: s157 :: s158 :: s159 :: s160 :: s161 :: s162 :: s163 :: s164 :: s165 :: s166 :: s167 :: s168 :: s169 :: s170 :: s171 :: s172 :: s173 :: s174 :: s175 :: s176 :: s177 :: s178 :: s179 :: s180 :: s181 :: s182 :: s183 :: s184 :: s185 :: s186 :: s187 :: s188 :: s189 :: s190 :: s191 :: s192 :: s193 :: s194 :: s195 :: s196 :: s197 :: []), defers := ds } : Act) Z)) : Code.wp Tryz.prog (Code.region 18 mp18Ops true) Q ({ tmps := List.toArray (s0 :: s1 :: s2 :: s3 :: s4 :: s5 :: s6 :: (.pointer (some ⟨pB, 0, none⟩) : Value) :: s8 :: (.pointer (some ⟨b1, 0, none⟩) : Value) :: s10 :: s11 :: s12 :: s13 :: s14 :: s15 :: s16 :: s17 :: s18 :: s19 :: s20 :: s21 :: s22 :: s23 :: s24 :: s25 :: s26 :: s27 :: s28 :: s29 :: s30 :: s31 :: s32 :: s33 :: s34 :: s35 :: s36 :: s37 :: s38 :: s39 :: s40 :: s41 :: s42 :: s43 :: s44 :: s45 :: s46 :: s47 :: s48 :: s49 :: s50 :: s51 :: s52 :: s53 :: s54 :: s55 :: s56 :: s57 :: s58 :: s59 :: s60 :: s61 :: s62 :: s63 :: s64 :: s65 :: s66 :: s67 :: s68 :: s69 :: s70 :: s71 :: s72 :: s73 :: s74 :: s75 :: s76 :: s77 :: s78 :: s79 :: s80 :: s81 :: s82 :: s83 :: s84 :: s85 :: s86 :: s87 :: s88 :: s89 :: s90 :: s91 :: s92 :: s93 :: s94 :: s95 :: s96 :: s97 :: s98 :: s99 :: s100 :: s101 :: s102 :: s103 :: s104 :: s105 :: s106 :: s107 :: s108 :: s109 :: s110 :: s111 :: s112 :: s113 :: s114 :: s115 :: s116 :: s117 :: s118 :: s119 :: s120 :: s121 :: s122 :: s123 :: s124 :: s125 :: s126 :: s127 :: s128 :: s129 :: s130 :: s131 :: s132 :: s133 :: s134 :: s135 :: s136 :: s137 :: s138 :: s139 :: s140 :: s141 :: s142 :: s143 :: s144 :: s145 :: s146 :: s147 :: s148 :: s149 :: s150 :: s151 :: s152 :: s153 :: s154 :: s155 :: s156 :: s157 :: s158 :: s159 :: s160 :: s161 :: s162 :: s163 :: s164 :: s165 :: s166 :: s167 :: s168 :: s169 :: s170 :: s171 :: s172 :: s173 :: s174 :: s175 :: s176 :: s177 :: s178 :: s179 :: s180 :: s181 :: s182 :: s183 :: s184 :: s185 :: s186 :: s187 :: s188 :: s189 :: s190 :: s191 :: s192 :: s193 :: s194 :: s195 :: s196 :: s197 :: []), defers := ds } : Act) wr := by
 have HPc := Lib.hid hPc
 have HDc := Lib.hid hDc
 clear hPc hDc
 unfold mp18Ops
 have BD : Below wr.heap.size wr wr.drew := (Below.refl _ _).drew
 refine wp_region_noPanic ?_
 refine wp_region_anyE (S := fun wx => Below wr.heap.size wr wx) (E := fun _ => true) (by kernel_rfl) ?_
 have hHeld : Below wr.heap.size wr wr.drew := BD
 have HB := Lib.hid BD
 obtain ⟨Z0, hZ0⟩ : ∃ z, z = wr.drew := ⟨_, rfl⟩
 rw [← hZ0] at HB hHeld ⊢
 clear hZ0 BD
 refine AnyE.take (i := 0) (.pointer (some ⟨pB, 0, none⟩)) rfl (by kernel_rfl) (by kernel_rfl) (by kernel_rfl) (by kernel_rfl) (fun _ _ _ h => h) (.inl ⟨by kernel_rfl, fun wy hy => by (go_simp; done)⟩) hHeld ?_
 try simp only [Act.put, List.setIfInBounds_toArray, List.set_cons_zero, List.set_cons_succ]
 refine AnyE.take (i := 1) (.pointer (some ⟨pB, 0, none⟩)) rfl (by kernel_rfl) (by kernel_rfl) (by kernel_rfl) (by kernel_rfl) (fun _ _ _ h => h) (.inl ⟨by kernel_rfl, fun wy hy => by (go_simp; done)⟩) hHeld ?_
 try simp only [Act.put, List.setIfInBounds_toArray, List.set_cons_zero, List.set_cons_succ]
 refine AnyE.take (i := 2) (.pointer (some ⟨pB, 0, none⟩)) rfl (by kernel_rfl) (by kernel_rfl) (by kernel_rfl) (by kernel_rfl) (fun _ _ _ h => h) (.inl ⟨by kernel_rfl, fun wy hy => by (go_simp; done)⟩) hHeld ?_
 try simp only [Act.put, List.setIfInBounds_toArray, List.set_cons_zero, List.set_cons_succ]
 refine AnyE.take (i := 3) (.pointer (some ⟨tB, 0, none⟩)) rfl (by kernel_rfl) (by kernel_rfl) (by kernel_rfl) (by kernel_rfl) (fun _ _ _ h => h) (.inl ⟨by kernel_rfl, fun wy hy => by (have q0 := (hy.cell (p := ⟨pB, 0, none⟩) (World.block_lt_of_cell? _ _ HPc.out)).trans HPc.out; go_simp; done)⟩) hHeld ?_
 try simp only [Act.put, List.setIfInBounds_toArray, List.set_cons_zero, List.set_cons_succ]
 refine AnyE.take (i := 4) (.agg #[x.vr, .int .i64 x.fam, x.vq, .int .i64 x.ts, .int .i64 x.seq, .int .i64 x.kind, x.vv]) rfl (by kernel_rfl) (by kernel_rfl) (by kernel_rfl) (by kernel_rfl) (fun _ _ _ h => h) (.inl ⟨by kernel_rfl, fun wy hy => by (have c0 := (hy.cell (p := ⟨b1, 0, none⟩) (World.block_lt_of_cell? _ _ HDc.out.1)).trans HDc.out.1; have c1 := (hy.cell (p := ⟨b1, 1, none⟩) (World.block_lt_of_cell? _ _ HDc.out.2.1)).trans HDc.out.2.1; have c2 := (hy.cell (p := ⟨b1, 2, none⟩) (World.block_lt_of_cell? _ _ HDc.out.2.2.1)).trans HDc.out.2.2.1; have c3 := (hy.cell (p := ⟨b1, 3, none⟩) (World.block_lt_of_cell? _ _ HDc.out.2.2.2.1)).trans HDc.out.2.2.2.1; have c4 := (hy.cell (p := ⟨b1, 4, none⟩) (World.block_lt_of_cell? _ _ HDc.out.2.2.2.2.1)).trans HDc.out.2.2.2.2.1; have c5 := (hy.cell (p := ⟨b1, 5, none⟩) (World.block_lt_of_cell? _ _ HDc.out.2.2.2.2.2.1)).trans HDc.out.2.2.2.2.2.1; have c6 := (hy.cell (p := ⟨b1, 6, none⟩) (World.block_lt_of_cell? _ _ HDc.out.2.2.2.2.2.2)).trans HDc.out.2.2.2.2.2.2; go_simp; done)⟩) hHeld ?_
 try simp only [Act.put, List.setIfInBounds_toArray, List.set_cons_zero, List.set_cons_succ]
 refine AnyE.one (i := 5) rfl (by kernel_rfl) (by kernel_rfl) (fun KK hK => ?_)
 go_simp
 go_at_call 7
 refine (hA.out _ HB.out).mono ?_
 rintro e9 w1 ⟨Bf, x0, rfl, k1, k2, k3, k4, k5, k6⟩
 have HR := Lib.hid (And.intro k1 (And.intro k2 (And.intro k3 (And.intro k4 k6))))
 have HZ := Lib.hid HB.out
 have HB := Lib.hid (HB.out.trans (k5.mono HB.out.size))
 clear k1 k2 k3 k4 k5 k6
 go_wp2_with fail
 refine hK.out _ _ ⟨fun _ => HB.out, ?_⟩
 have hHeld := HB.out
 clear hK
 try simp only [Act.put, List.setIfInBounds_toArray, List.set_cons_zero, List.set_cons_succ]
 refine AnyE.take (i := 6) ((.func (.func 25) #[] #[.pointer (some ⟨Z0.heap.size, 0, none⟩), .pointer (some ⟨Bf, 0, none⟩)])) rfl (by kernel_rfl) (by kernel_rfl) (by kernel_rfl) (by kernel_rfl) (fun _ _ _ h => h) (.inl ⟨by kernel_rfl, fun wy hy => by (go_simp; done)⟩) hHeld ?_
 try simp only [Act.put, List.setIfInBounds_toArray, List.set_cons_zero, List.set_cons_succ]
 refine AnyE.done (by kernel_rfl) (NoPanic.normal ?_) _
 exact hQ.out _ _ _ wr _ ⟨HZ.out.size, HB.out, HR.out⟩
end Go.Proofs.YtpabbnddeklpdaaGreat

namespace Go.Proofs.YtpabbnddeklpdaaGreat
open Go.RowKit Go.Shelf
set_option linter.unusedVariables false
set_option linter.unusedSimpArgs false
attribute [local go_sem] Oper.semAt_some

def mp38Ops : Array Oper := #[{ dst := some 148, op := Op.move (Operand.tmp 7), type := 24, pos := "law.go:279", after := #[], guard := none }, { dst := some 149, op := Op.nilCheck (Operand.tmp 148), type := 0, pos := "law.go:279", after := #[{ on := 0, ground := Ground.data }], guard := none }, { dst := some 150, op := Op.fieldAddr 31 (Operand.tmp 149) 0, type := 0, pos := "law.go:279", after := #[{ on := 1, ground := Ground.data }], guard := none }, { dst := some 151, op := Op.load 25 (Operand.tmp 150), type := 25, pos := "law.go:279", after := #[{ on := 2, ground := Ground.data }], guard := none }, { dst := some 152, op := Op.call { callee := Callee.value (Operand.func 12), args := #[Operand.tmp 151], argTypes := #[25] }, type := 3, pos := "law.go:279", after := #[{ on := 3, ground := Ground.data }], guard := none }, { dst := some 153, op := Op.move (Operand.tmp 7), type := 24, pos := "law.go:279", after := #[], guard := none }, { dst := some 154, op := Op.nilCheck (Operand.tmp 153), type := 0, pos := "law.go:279", after := #[{ on := 5, ground := Ground.data }], guard := none }, { dst := some 155, op := Op.fieldAddr 31 (Operand.tmp 154) 1, type := 0, pos := "law.go:279", after := #[{ on := 6, ground := Ground.data }], guard := none }, { dst := some 156, op := Op.fieldAddr 29 (Operand.tmp 155) 0, type := 0, pos := "law.go:279", after := #[{ on := 7, ground := Ground.data }], guard := none }, { dst := some 157, op := Op.load 27 (Operand.tmp 156), type := 27, pos := "law.go:279", after := #[{ on := 8, ground := Ground.data }], guard := none }, { dst := some 158, op := Op.call { callee := Callee.builtin Builtin.len, args := #[Operand.tmp 157], argTypes := #[27] }, type := 3, pos := "law.go:279", after := #[{ on := 9, ground := Ground.data }], guard := none }, { dst := some 159, op := Op.binOp BinOp.neq 3 (Operand.tmp 152) (Operand.tmp 158) 3, type := 4, pos := "law.go:279", after := #[{ on := 4, ground := Ground.data }, { on := 10, ground := Ground.data }], guard := none }, { dst := some 160, op := Op.move (Operand.tmp 159), type := 4, pos := "law.go:279", after := #[{ on := 11, ground := Ground.data }, { on := 4, ground := Ground.chain }], guard := none }, { dst := some 161, op := Op.move (Operand.tmp 7), type := 24, pos := "law.go:279", after := #[{ on := 12, ground := Ground.guard }], guard := some (12, false) }, { dst := some 162, op := Op.nilCheck (Operand.tmp 161), type := 0, pos := "law.go:279", after := #[{ on := 13, ground := Ground.data }, { on := 12, ground := Ground.guard }], guard := some (12, false) }, { dst := some 163, op := Op.fieldAddr 31 (Operand.tmp 162) 0, type := 0, pos := "law.go:279", after := #[{ on := 14, ground := Ground.data }, { on := 12, ground := Ground.guard }], guard := some (12, false) }, { dst := some 164, op := Op.load 25 (Operand.tmp 163), type := 25, pos := "law.go:279", after := #[{ on := 15, ground := Ground.data }, { on := 12, ground := Ground.guard }], guard := some (12, false) }, { dst := some 165, op := Op.call { callee := Callee.value (Operand.func 13), args := #[Operand.tmp 164], argTypes := #[25] }, type := 3, pos := "law.go:279", after := #[{ on := 16, ground := Ground.data }, { on := 12, ground := Ground.chain }, { on := 12, ground := Ground.guard }], guard := some (12, false) }, { dst := some 166, op := Op.move (Operand.tmp 7), type := 24, pos := "law.go:279", after := #[{ on := 12, ground := Ground.guard }], guard := some (12, false) }, { dst := some 167, op := Op.nilCheck (Operand.tmp 166), type := 0, pos := "law.go:279", after := #[{ on := 18, ground := Ground.data }, { on := 12, ground := Ground.guard }], guard := some (12, false) }, { dst := some 168, op := Op.fieldAddr 31 (Operand.tmp 167) 1, type := 0, pos := "law.go:279", after := #[{ on := 19, ground := Ground.data }, { on := 12, ground := Ground.guard }], guard := some (12, false) }, { dst := some 169, op := Op.load 29 (Operand.tmp 168), type := 29, pos := "law.go:279", after := #[{ on := 20, ground := Ground.data }, { on := 12, ground := Ground.guard }], guard := some (12, false) }, { dst := some 170, op := Op.call { callee := Callee.value (Operand.func 14), args := #[Operand.tmp 169], argTypes := #[29] }, type := 3, pos := "law.go:279", after := #[{ on := 21, ground := Ground.data }, { on := 17, ground := Ground.chain }, { on := 12, ground := Ground.guard }], guard := some (12, false) }, { dst := some 171, op := Op.binOp BinOp.neq 3 (Operand.tmp 165) (Operand.tmp 170) 3, type := 4, pos := "law.go:279", after := #[{ on := 17, ground := Ground.data }, { on := 22, ground := Ground.data }, { on := 12, ground := Ground.guard }], guard := some (12, false) }, { dst := some 172, op := Op.pick (Operand.tmp 160) (Operand.const (Value.bool true)) (Operand.tmp 171), type := 4, pos := "law.go:279", after := #[{ on := 12, ground := Ground.data }, { on := 23, ground := Ground.data }], guard := none }, { dst := some 173, op := Op.move (Operand.tmp 172), type := 4, pos := "law.go:279", after := #[{ on := 24, ground := Ground.data }, { on := 22, ground := Ground.chain }], guard := none }, { dst := some 174, op := Op.move (Operand.tmp 7), type := 24, pos := "law.go:279", after := #[{ on := 25, ground := Ground.guard }], guard := some (25, false) }, { dst := some 175, op := Op.nilCheck (Operand.tmp 174), type := 0, pos := "law.go:279", after := #[{ on := 26, ground := Ground.data }, { on := 25, ground := Ground.guard }], guard := some (25, false) }, { dst := some 176, op := Op.fieldAddr 31 (Operand.tmp 175) 0, type := 0, pos := "law.go:279", after := #[{ on := 27, ground := Ground.data }, { on := 25, ground := Ground.guard }], guard := some (25, false) }, { dst := some 177, op := Op.load 25 (Operand.tmp 176), type := 25, pos := "law.go:279", after := #[{ on := 28, ground := Ground.data }, { on := 25, ground := Ground.guard }], guard := some (25, false) }, { dst := some 178, op := Op.call { callee := Callee.value (Operand.func 15), args := #[Operand.tmp 177], argTypes := #[25] }, type := 4, pos := "law.go:279", after := #[{ on := 29, ground := Ground.data }, { on := 25, ground := Ground.chain }, { on := 25, ground := Ground.guard }], guard := some (25, false) }, { dst := some 179, op := Op.move (Operand.tmp 7), type := 24, pos := "law.go:279", after := #[{ on := 25, ground := Ground.guard }], guard := some (25, false) }, { dst := some 180, op := Op.nilCheck (Operand.tmp 179), type := 0, pos := "law.go:279", after := #[{ on := 31, ground := Ground.data }, { on := 25, ground := Ground.guard }], guard := some (25, false) }, { dst := some 181, op := Op.fieldAddr 31 (Operand.tmp 180) 1, type := 0, pos := "law.go:279", after := #[{ on := 32, ground := Ground.data }, { on := 25, ground := Ground.guard }], guard := some (25, false) }, { dst := some 182, op := Op.fieldAddr 29 (Operand.tmp 181) 1, type := 0, pos := "law.go:279", after := #[{ on := 33, ground := Ground.data }, { on := 25, ground := Ground.guard }], guard := some (25, false) }, { dst := some 183, op := Op.load 4 (Operand.tmp 182), type := 4, pos := "law.go:279", after := #[{ on := 34, ground := Ground.data }, { on := 25, ground := Ground.guard }], guard := some (25, false) }, { dst := some 184, op := Op.binOp BinOp.neq 4 (Operand.tmp 178) (Operand.tmp 183) 4, type := 4, pos := "law.go:279", after := #[{ on := 30, ground := Ground.data }, { on := 35, ground := Ground.data }, { on := 25, ground := Ground.guard }], guard := some (25, false) }, { dst := some 185, op := Op.pick (Operand.tmp 173) (Operand.const (Value.bool true)) (Operand.tmp 184), type := 4, pos := "law.go:279", after := #[{ on := 25, ground := Ground.data }, { on := 36, ground := Ground.data }], guard := none }]
set_option maxRecDepth 100000 in
set_option maxHeartbeats 16000000 in
theorem mp38_region {wr : World} {pB tB m c : Nat} {a : Option Addr} {f : Bool} {kb : Int} {ds : List Deferred} {Q : Exit → Act → World → Prop} {s0 s1 s2 s3 s4 s5 s6 s8 s9 s10 s11 s12 s13 s14 s15 s16 s17 s18 s19 s20 s21 s22 s23 s24 s25 s26 s27 s28 s29 s30 s31 s32 s33 s34 s35 s36 s37 s38 s39 s40 s41 s42 s43 s44 s45 s46 s47 s48 s49 s50 s51 s52 s53 s54 s55 s56 s57 s58 s59 s60 s61 s62 s63 s64 s65 s66 s67 s68 s69 s70 s71 s72 s73 s74 s75 s76 s77 s78 s79 s80 s81 s82 s83 s84 s85 s86 s87 s88 s89 s90 s91 s92 s93 s94 s95 s96 s97 s98 s99 s100 s101 s102 s103 s104 s105 s106 s107 s108 s109 s110 s111 s112 s113 s114 s115 s116 s117 s118 s119 s120 s121 s122 s123 s124 s125 s126 s127 s128 s129 s130 s131 s132 s133 s134 s135 s136 s137 s138 s139 s140 s141 s142 s143 s144 s145 s146 s147 s148 s149 s150 s151 s152 s153 s154 s155 s156 s157 s158 s159 s160 s161 s162 s163 s164 s165 s166 s167 s168 s169 s170 s171 s172 s173 s174 s175 s176 s177 s178 s179 s180 s181 s182 s183 s184 s185 s186 s187 s188 s189 s190 s191 s192 s193 s194 s195 s196 s197 : Value}
  (hPc : wr.cell? ⟨pB, 0, none⟩ = some (.pointer (some ⟨tB, 0, none⟩)) ∧ wr.cell? ⟨pB, 1, none⟩ = some (.slice a m c) ∧ wr.cell? ⟨pB, 2, none⟩ = some (.bool f))
  (hL : Hid (∀ Z, Below wr.heap.size wr Z → Calls Tryz.prog 12 #[.pointer (some ⟨tB, 0, none⟩)] Z (fun e w' => e = .returned (.int .i64 (m : Int)) ∧ Below Z.heap.size Z w')))
  (hBy : Hid (∀ Z, Below wr.heap.size wr Z → Calls Tryz.prog 13 #[.pointer (some ⟨tB, 0, none⟩)] Z (fun e w' => e = .returned (.int .i64 kb) ∧ Below Z.heap.size Z w')))
  (hRb : Hid (∀ Z, Below wr.heap.size wr Z → Calls Tryz.prog 14 #[.agg #[.slice a m c, .bool f]] Z (fun e w' => e = .returned (.int .i64 kb) ∧ Below Z.heap.size Z w')))
  (hFz : Hid (∀ Z, Below wr.heap.size wr Z → Calls Tryz.prog 15 #[.pointer (some ⟨tB, 0, none⟩)] Z (fun e w' => e = .returned (.bool f) ∧ Below Z.heap.size Z w')))
  (hQ : Hid (∀ (Z : World), Below wr.heap.size wr Z → Q .normal ({ tmps := List.toArray (s0 :: s1 :: s2 :: s3 :: s4 :: s5 :: s6 :: (.pointer (some ⟨pB, 0, none⟩) : Value) :: s8 :: s9 :: s10 :: s11 :: s12 :: s13 :: s14 :: s15 :: s16 :: s17 :: s18 :: s19 :: s20 :: s21 :: s22 :: s23 :: s24 :: s25 :: s26 :: s27 :: s28 :: s29 :: s30 :: s31 :: s32 :: s33 :: s34 :: s35 :: s36 :: s37 :: s38 :: s39 :: s40 :: s41 :: s42 :: s43 :: s44 :: s45 :: s46 :: s47 :: s48 :: s49 :: s50 :: s51 :: s52 :: s53 :: s54 :: s55 :: s56 :: s57 :: s58 :: s59 :: s60 :: s61 :: s62 :: s63 :: s64 :: s65 :: s66 :: s67 :: s68 :: s69 :: s70 :: s71 :: s72 :: s73 :: s74 :: s75 :: s76 :: s77 :: s78 :: s79 :: s80 :: s81 :: s82 :: s83 :: s84 :: s85 :: s86 :: s87 :: s88 :: s89 :: s90 :: s91 :: s92 :: s93 :: s94 :: s95 :: s96 :: s97 :: s98 :: s99 :: s100 :: s101 :: s102 :: s103 :: s104 :: s105 :: s106 :: s107 :: s108 :: s109 :: s110 :: s111 :: s112 :: s113 :: s114 :: s115 :: s116 :: s117 :: s118 :: s119 :: s120 :: s121 :: s122 :: s123 :: s124 :: s125 :: s126 :: s127 :: s128 :: s129 :: s130 :: s131 :: s132 :: s133 :: s134 :: s135 :: s136 :: s137 :: s138 :: s139 :: s140 :: s141 :: s142 :: s143 :: s144 :: s145 :: s146 :: s147 :: (.pointer (some ⟨pB, 0, none⟩) : Value) :: (.pointer (some ⟨pB, 0, none⟩) : Value) :: (.pointer (some ⟨pB, 0, none⟩) : Value) :: (.pointer (some ⟨tB, 0, none⟩) : Value) :: (.int .i64 (m : Int) : Value) :: (.pointer (some ⟨pB, 0, none⟩) : Value) :: (.pointer (some ⟨pB, 0, none⟩) : Value) :: (.pointer (some ⟨pB, 1, none⟩) : Value) :: (.pointer (some ⟨pB, 1, none⟩) : Value) :: (.slice a m c : Value) :: (.int .i64 (m : Int) : Value) :: (.bool false : Value) :: (.bool false : Value) :: (.pointer (some ⟨pB, 0, none⟩) : Value) :: (.pointer (some ⟨pB, 0, none⟩) : Value) :: (.pointer (some ⟨pB, 0, none⟩) : Value) :: (.pointer (some ⟨tB, 0, none⟩) : Value) :: (.int .i64 kb : Value) :: (.pointer (some ⟨pB, 0, none⟩) : Value) :: (.pointer (some ⟨pB, 0, none⟩) : Value) :: (.pointer (some ⟨pB, 1, none⟩) : Value) :: (.agg #[.slice a m c, .bool f] : Value) :: (.int .i64 kb : Value) :: (.bool false : Value) :: (.bool false : Value) :: (.bool false : Value) :: (.pointer (some ⟨pB, 0, none⟩) : Value) :: (.pointer (some ⟨pB, 0, none⟩) : Value) :: (.pointer (some ⟨pB, 0, none⟩) : Value) :: (.pointer (some ⟨tB, 0, none⟩) : Value) :: (.bool f : Value) :: (.pointer (some ⟨pB, 0, none⟩) : Value) :: (.pointer (some ⟨pB, 0, none⟩) : Value) :: (.pointer (some ⟨pB, 1, none⟩) : Value) :: (.pointer (some ⟨pB, 2, none⟩) : Value) :: (.bool f : Value) :: (.bool false : Value) :: (.bool false : Value) :: s186 :: s187 :: s188 :: s189 :: s190 :: s191 :: s192 :: s193 :: s194 :: s195 :: s196 :: s197 :: []), defers := ds } : Act) Z)) : Code.wp Tryz.prog (Code.region 38 mp38Ops true) Q ({ tmps := List.toArray (s0 :: s1 :: s2 :: s3 :: s4 :: s5 :: s6 :: (.pointer (some ⟨pB, 0, none⟩) : Value) :: s8 :: s9 :: s10 :: s11 :: s12 :: s13 :: s14 :: s15 :: s16 :: s17 :: s18 :: s19 :: s20 :: s21 :: s22 :: s23 :: s24 :: s25 :: s26 :: s27 :: s28 :: s29 :: s30 :: s31 :: s32 :: s33 :: s34 :: s35 :: s36 :: s37 :: s38 :: s39 :: s40 :: s41 :: s42 :: s43 :: s44 :: s45 :: s46 :: s47 :: s48 :: s49 :: s50 :: s51 :: s52 :: s53 :: s54 :: s55 :: s56 :: s57 :: s58 :: s59 :: s60 :: s61 :: s62 :: s63 :: s64 :: s65 :: s66 :: s67 :: s68 :: s69 :: s70 :: s71 :: s72 :: s73 :: s74 :: s75 :: s76 :: s77 :: s78 :: s79 :: s80 :: s81 :: s82 :: s83 :: s84 :: s85 :: s86 :: s87 :: s88 :: s89 :: s90 :: s91 :: s92 :: s93 :: s94 :: s95 :: s96 :: s97 :: s98 :: s99 :: s100 :: s101 :: s102 :: s103 :: s104 :: s105 :: s106 :: s107 :: s108 :: s109 :: s110 :: s111 :: s112 :: s113 :: s114 :: s115 :: s116 :: s117 :: s118 :: s119 :: s120 :: s121 :: s122 :: s123 :: s124 :: s125 :: s126 :: s127 :: s128 :: s129 :: s130 :: s131 :: s132 :: s133 :: s134 :: s135 :: s136 :: s137 :: s138 :: s139 :: s140 :: s141 :: s142 :: s143 :: s144 :: s145 :: s146 :: s147 :: s148 :: s149 :: s150 :: s151 :: s152 :: s153 :: s154 :: s155 :: s156 :: s157 :: s158 :: s159 :: s160 :: s161 :: s162 :: s163 :: s164 :: s165 :: s166 :: s167 :: s168 :: s169 :: s170 :: s171 :: s172 :: s173 :: s174 :: s175 :: s176 :: s177 :: s178 :: s179 :: s180 :: s181 :: s182 :: s183 :: s184 :: s185 :: s186 :: s187 :: s188 :: s189 :: s190 :: s191 :: s192 :: s193 :: s194 :: s195 :: s196 :: s197 :: []), defers := ds } : Act) wr := by
 have HPc := Lib.hid hPc
 clear hPc
 unfold mp38Ops
 have BD : Below wr.heap.size wr wr.drew := (Below.refl _ _).drew
 refine wp_region_noPanic ?_
 refine wp_region_anyE (S := fun wx => Below wr.heap.size wr wx) (E := fun _ => true) (by kernel_rfl) ?_
 have hHeld : Below wr.heap.size wr wr.drew := BD
 have HB := Lib.hid BD
 obtain ⟨Z0, hZ0⟩ : ∃ z, z = wr.drew := ⟨_, rfl⟩
 rw [← hZ0] at HB hHeld ⊢
 clear hZ0 BD
 refine AnyE.take (i := 0) (.pointer (some ⟨pB, 0, none⟩)) rfl (by kernel_rfl) (by kernel_rfl) (by kernel_rfl) (by kernel_rfl) (fun _ _ _ h => h) (.inl ⟨by kernel_rfl, fun wy hy => by (go_simp; done)⟩) hHeld ?_
 try simp only [Act.put, List.setIfInBounds_toArray, List.set_cons_zero, List.set_cons_succ]
 refine AnyE.take (i := 1) (.pointer (some ⟨pB, 0, none⟩)) rfl (by kernel_rfl) (by kernel_rfl) (by kernel_rfl) (by kernel_rfl) (fun _ _ _ h => h) (.inl ⟨by kernel_rfl, fun wy hy => by (go_simp; done)⟩) hHeld ?_
 try simp only [Act.put, List.setIfInBounds_toArray, List.set_cons_zero, List.set_cons_succ]
 refine AnyE.take (i := 2) (.pointer (some ⟨pB, 0, none⟩)) rfl (by kernel_rfl) (by kernel_rfl) (by kernel_rfl) (by kernel_rfl) (fun _ _ _ h => h) (.inl ⟨by kernel_rfl, fun wy hy => by (go_simp; done)⟩) hHeld ?_
 try simp only [Act.put, List.setIfInBounds_toArray, List.set_cons_zero, List.set_cons_succ]
 refine AnyE.take (i := 3) (.pointer (some ⟨tB, 0, none⟩)) rfl (by kernel_rfl) (by kernel_rfl) (by kernel_rfl) (by kernel_rfl) (fun _ _ _ h => h) (.inl ⟨by kernel_rfl, fun wy hy => by (have q0 := (hy.cell (p := ⟨pB, 0, none⟩) (World.block_lt_of_cell? _ _ HPc.out.1)).trans HPc.out.1; go_simp; done)⟩) hHeld ?_
 try simp only [Act.put, List.setIfInBounds_toArray, List.set_cons_zero, List.set_cons_succ]
 refine AnyE.take (i := 5) (.pointer (some ⟨pB, 0, none⟩)) rfl (by kernel_rfl) (by kernel_rfl) (by kernel_rfl) (by kernel_rfl) (fun _ _ _ h => h) (.inl ⟨by kernel_rfl, fun wy hy => by (go_simp; done)⟩) hHeld ?_
 try simp only [Act.put, List.setIfInBounds_toArray, List.set_cons_zero, List.set_cons_succ]
 refine AnyE.take (i := 6) (.pointer (some ⟨pB, 0, none⟩)) rfl (by kernel_rfl) (by kernel_rfl) (by kernel_rfl) (by kernel_rfl) (fun _ _ _ h => h) (.inl ⟨by kernel_rfl, fun wy hy => by (go_simp; done)⟩) hHeld ?_
 try simp only [Act.put, List.setIfInBounds_toArray, List.set_cons_zero, List.set_cons_succ]
 refine AnyE.take (i := 7) (.pointer (some ⟨pB, 1, none⟩)) rfl (by kernel_rfl) (by kernel_rfl) (by kernel_rfl) (by kernel_rfl) (fun _ _ _ h => h) (.inl ⟨by kernel_rfl, fun wy hy => by (go_simp; done)⟩) hHeld ?_
 try simp only [Act.put, List.setIfInBounds_toArray, List.set_cons_zero, List.set_cons_succ]
 refine AnyE.take (i := 8) (.pointer (some ⟨pB, 1, none⟩)) rfl (by kernel_rfl) (by kernel_rfl) (by kernel_rfl) (by kernel_rfl) (fun _ _ _ h => h) (.inl ⟨by kernel_rfl, fun wy hy => by (go_simp; done)⟩) hHeld ?_
 try simp only [Act.put, List.setIfInBounds_toArray, List.set_cons_zero, List.set_cons_succ]
 refine AnyE.take (i := 9) (.slice a m c) rfl (by kernel_rfl) (by kernel_rfl) (by kernel_rfl) (by kernel_rfl) (fun _ _ _ h => h) (.inl ⟨by kernel_rfl, fun wy hy => by (have q1 := (hy.cell (p := ⟨pB, 1, none⟩) (World.block_lt_of_cell? _ _ HPc.out.2.1)).trans HPc.out.2.1; go_simp; done)⟩) hHeld ?_
 try simp only [Act.put, List.setIfInBounds_toArray, List.set_cons_zero, List.set_cons_succ]
 refine AnyE.take (i := 10) (.int .i64 (m : Int)) rfl (by kernel_rfl) (by kernel_rfl) (by kernel_rfl) (by kernel_rfl) (fun _ _ _ h => h) (.inl ⟨by kernel_rfl, fun wy hy => by (go_simp; done)⟩) hHeld ?_
 try simp only [Act.put, List.setIfInBounds_toArray, List.set_cons_zero, List.set_cons_succ]
 refine AnyE.one (i := 4) rfl (by kernel_rfl) (by kernel_rfl) (fun KK hK => ?_)
 go_simp
 go_at_call 12
 refine (hL.out _ HB.out).mono ?_
 rintro e9 w4 ⟨rfl, b1⟩
 have HB := Lib.hid (HB.out.trans (b1.mono HB.out.size))
 clear b1
 go_wp2_with fail
 refine hK.out _ _ ⟨fun _ => HB.out, ?_⟩
 have hHeld := HB.out
 clear hK
 try simp only [Act.put, List.setIfInBounds_toArray, List.set_cons_zero, List.set_cons_succ]
 refine AnyE.take (i := 11) (.bool false) rfl (by kernel_rfl) (by kernel_rfl) (by kernel_rfl) (by kernel_rfl) (fun _ _ _ h => h) (.inl ⟨by kernel_rfl, fun wy hy => by (go_simp; done)⟩) hHeld ?_
 try simp only [Act.put, List.setIfInBounds_toArray, List.set_cons_zero, List.set_cons_succ]
 refine AnyE.take (i := 12) (.bool false) rfl (by kernel_rfl) (by kernel_rfl) (by kernel_rfl) (by kernel_rfl) (fun _ _ _ h => h) (.inl ⟨by kernel_rfl, fun wy hy => by (go_simp; done)⟩) hHeld ?_
 try simp only [Act.put, List.setIfInBounds_toArray, List.set_cons_zero, List.set_cons_succ]
 refine AnyE.take (i := 13) (.pointer (some ⟨pB, 0, none⟩)) rfl (by kernel_rfl) (by kernel_rfl) (by kernel_rfl) (by kernel_rfl) (fun _ _ _ h => h) (.inl ⟨by kernel_rfl, fun wy hy => by (go_simp; done)⟩) hHeld ?_
 try simp only [Act.put, List.setIfInBounds_toArray, List.set_cons_zero, List.set_cons_succ]
 refine AnyE.take (i := 14) (.pointer (some ⟨pB, 0, none⟩)) rfl (by kernel_rfl) (by kernel_rfl) (by kernel_rfl) (by kernel_rfl) (fun _ _ _ h => h) (.inl ⟨by kernel_rfl, fun wy hy => by (go_simp; done)⟩) hHeld ?_
 try simp only [Act.put, List.setIfInBounds_toArray, List.set_cons_zero, List.set_cons_succ]
 refine AnyE.take (i := 15) (.pointer (some ⟨pB, 0, none⟩)) rfl (by kernel_rfl) (by kernel_rfl) (by kernel_rfl) (by kernel_rfl) (fun _ _ _ h => h) (.inl ⟨by kernel_rfl, fun wy hy => by (go_simp; done)⟩) hHeld ?_
 try simp only [Act.put, List.setIfInBounds_toArray, List.set_cons_zero, List.set_cons_succ]
 refine AnyE.take (i := 16) (.pointer (some ⟨tB, 0, none⟩)) rfl (by kernel_rfl) (by kernel_rfl) (by kernel_rfl) (by kernel_rfl) (fun _ _ _ h => h) (.inl ⟨by kernel_rfl, fun wy hy => by (have q0 := (hy.cell (p := ⟨pB, 0, none⟩) (World.block_lt_of_cell? _ _ HPc.out.1)).trans HPc.out.1; go_simp; done)⟩) hHeld ?_
 try simp only [Act.put, List.setIfInBounds_toArray, List.set_cons_zero, List.set_cons_succ]
 refine AnyE.take (i := 18) (.pointer (some ⟨pB, 0, none⟩)) rfl (by kernel_rfl) (by kernel_rfl) (by kernel_rfl) (by kernel_rfl) (fun _ _ _ h => h) (.inl ⟨by kernel_rfl, fun wy hy => by (go_simp; done)⟩) hHeld ?_
 try simp only [Act.put, List.setIfInBounds_toArray, List.set_cons_zero, List.set_cons_succ]
 refine AnyE.take (i := 19) (.pointer (some ⟨pB, 0, none⟩)) rfl (by kernel_rfl) (by kernel_rfl) (by kernel_rfl) (by kernel_rfl) (fun _ _ _ h => h) (.inl ⟨by kernel_rfl, fun wy hy => by (go_simp; done)⟩) hHeld ?_
 try simp only [Act.put, List.setIfInBounds_toArray, List.set_cons_zero, List.set_cons_succ]
 refine AnyE.take (i := 20) (.pointer (some ⟨pB, 1, none⟩)) rfl (by kernel_rfl) (by kernel_rfl) (by kernel_rfl) (by kernel_rfl) (fun _ _ _ h => h) (.inl ⟨by kernel_rfl, fun wy hy => by (go_simp; done)⟩) hHeld ?_
 try simp only [Act.put, List.setIfInBounds_toArray, List.set_cons_zero, List.set_cons_succ]
 refine AnyE.take (i := 21) (.agg #[.slice a m c, .bool f]) rfl (by kernel_rfl) (by kernel_rfl) (by kernel_rfl) (by kernel_rfl) (fun _ _ _ h => h) (.inl ⟨by kernel_rfl, fun wy hy => by (have q1 := (hy.cell (p := ⟨pB, 1, none⟩) (World.block_lt_of_cell? _ _ HPc.out.2.1)).trans HPc.out.2.1; have q2 := (hy.cell (p := ⟨pB, 2, none⟩) (World.block_lt_of_cell? _ _ HPc.out.2.2)).trans HPc.out.2.2; go_simp; done)⟩) hHeld ?_
 try simp only [Act.put, List.setIfInBounds_toArray, List.set_cons_zero, List.set_cons_succ]
 refine AnyE.one (i := 17) rfl (by kernel_rfl) (by kernel_rfl) (fun KK hK => ?_)
 go_simp
 go_at_call 13
 refine (hBy.out _ HB.out).mono ?_
 rintro e9 w17 ⟨rfl, b1⟩
 have HB := Lib.hid (HB.out.trans (b1.mono HB.out.size))
 clear b1
 go_wp2_with fail
 refine hK.out _ _ ⟨fun _ => HB.out, ?_⟩
 have hHeld := HB.out
 clear hK
 try simp only [Act.put, List.setIfInBounds_toArray, List.set_cons_zero, List.set_cons_succ]
 refine AnyE.one (i := 22) rfl (by kernel_rfl) (by kernel_rfl) (fun KK hK => ?_)
 go_simp
 go_at_call 14
 refine (hRb.out _ HB.out).mono ?_
 rintro e9 w22 ⟨rfl, b1⟩
 have HB := Lib.hid (HB.out.trans (b1.mono HB.out.size))
 clear b1
 go_wp2_with fail
 refine hK.out _ _ ⟨fun _ => HB.out, ?_⟩
 have hHeld := HB.out
 clear hK
 try simp only [Act.put, List.setIfInBounds_toArray, List.set_cons_zero, List.set_cons_succ]
 refine AnyE.take (i := 23) (.bool false) rfl (by kernel_rfl) (by kernel_rfl) (by kernel_rfl) (by kernel_rfl) (fun _ _ _ h => h) (.inl ⟨by kernel_rfl, fun wy hy => by (go_simp; done)⟩) hHeld ?_
 try simp only [Act.put, List.setIfInBounds_toArray, List.set_cons_zero, List.set_cons_succ]
 refine AnyE.take (i := 24) (.bool false) rfl (by kernel_rfl) (by kernel_rfl) (by kernel_rfl) (by kernel_rfl) (fun _ _ _ h => h) (.inl ⟨by kernel_rfl, fun wy hy => by (go_simp; done)⟩) hHeld ?_
 try simp only [Act.put, List.setIfInBounds_toArray, List.set_cons_zero, List.set_cons_succ]
 refine AnyE.take (i := 25) (.bool false) rfl (by kernel_rfl) (by kernel_rfl) (by kernel_rfl) (by kernel_rfl) (fun _ _ _ h => h) (.inl ⟨by kernel_rfl, fun wy hy => by (go_simp; done)⟩) hHeld ?_
 try simp only [Act.put, List.setIfInBounds_toArray, List.set_cons_zero, List.set_cons_succ]
 refine AnyE.take (i := 26) (.pointer (some ⟨pB, 0, none⟩)) rfl (by kernel_rfl) (by kernel_rfl) (by kernel_rfl) (by kernel_rfl) (fun _ _ _ h => h) (.inl ⟨by kernel_rfl, fun wy hy => by (go_simp; done)⟩) hHeld ?_
 try simp only [Act.put, List.setIfInBounds_toArray, List.set_cons_zero, List.set_cons_succ]
 refine AnyE.take (i := 27) (.pointer (some ⟨pB, 0, none⟩)) rfl (by kernel_rfl) (by kernel_rfl) (by kernel_rfl) (by kernel_rfl) (fun _ _ _ h => h) (.inl ⟨by kernel_rfl, fun wy hy => by (go_simp; done)⟩) hHeld ?_
 try simp only [Act.put, List.setIfInBounds_toArray, List.set_cons_zero, List.set_cons_succ]
 refine AnyE.take (i := 28) (.pointer (some ⟨pB, 0, none⟩)) rfl (by kernel_rfl) (by kernel_rfl) (by kernel_rfl) (by kernel_rfl) (fun _ _ _ h => h) (.inl ⟨by kernel_rfl, fun wy hy => by (go_simp; done)⟩) hHeld ?_
 try simp only [Act.put, List.setIfInBounds_toArray, List.set_cons_zero, List.set_cons_succ]
 refine AnyE.take (i := 29) (.pointer (some ⟨tB, 0, none⟩)) rfl (by kernel_rfl) (by kernel_rfl) (by kernel_rfl) (by kernel_rfl) (fun _ _ _ h => h) (.inl ⟨by kernel_rfl, fun wy hy => by (have q0 := (hy.cell (p := ⟨pB, 0, none⟩) (World.block_lt_of_cell? _ _ HPc.out.1)).trans HPc.out.1; go_simp; done)⟩) hHeld ?_
 try simp only [Act.put, List.setIfInBounds_toArray, List.set_cons_zero, List.set_cons_succ]
 refine AnyE.take (i := 31) (.pointer (some ⟨pB, 0, none⟩)) rfl (by kernel_rfl) (by kernel_rfl) (by kernel_rfl) (by kernel_rfl) (fun _ _ _ h => h) (.inl ⟨by kernel_rfl, fun wy hy => by (go_simp; done)⟩) hHeld ?_
 try simp only [Act.put, List.setIfInBounds_toArray, List.set_cons_zero, List.set_cons_succ]
 refine AnyE.take (i := 32) (.pointer (some ⟨pB, 0, none⟩)) rfl (by kernel_rfl) (by kernel_rfl) (by kernel_rfl) (by kernel_rfl) (fun _ _ _ h => h) (.inl ⟨by kernel_rfl, fun wy hy => by (go_simp; done)⟩) hHeld ?_
 try simp only [Act.put, List.setIfInBounds_toArray, List.set_cons_zero, List.set_cons_succ]
 refine AnyE.take (i := 33) (.pointer (some ⟨pB, 1, none⟩)) rfl (by kernel_rfl) (by kernel_rfl) (by kernel_rfl) (by kernel_rfl) (fun _ _ _ h => h) (.inl ⟨by kernel_rfl, fun wy hy => by (go_simp; done)⟩) hHeld ?_
 try simp only [Act.put, List.setIfInBounds_toArray, List.set_cons_zero, List.set_cons_succ]
 refine AnyE.take (i := 34) (.pointer (some ⟨pB, 2, none⟩)) rfl (by kernel_rfl) (by kernel_rfl) (by kernel_rfl) (by kernel_rfl) (fun _ _ _ h => h) (.inl ⟨by kernel_rfl, fun wy hy => by (go_simp; done)⟩) hHeld ?_
 try simp only [Act.put, List.setIfInBounds_toArray, List.set_cons_zero, List.set_cons_succ]
 refine AnyE.take (i := 35) (.bool f) rfl (by kernel_rfl) (by kernel_rfl) (by kernel_rfl) (by kernel_rfl) (fun _ _ _ h => h) (.inl ⟨by kernel_rfl, fun wy hy => by (have q2 := (hy.cell (p := ⟨pB, 2, none⟩) (World.block_lt_of_cell? _ _ HPc.out.2.2)).trans HPc.out.2.2; go_simp; done)⟩) hHeld ?_
 try simp only [Act.put, List.setIfInBounds_toArray, List.set_cons_zero, List.set_cons_succ]
 refine AnyE.one (i := 30) rfl (by kernel_rfl) (by kernel_rfl) (fun KK hK => ?_)
 go_simp
 go_at_call 15
 refine (hFz.out _ HB.out).mono ?_
 rintro e9 w30 ⟨rfl, b1⟩
 have HB := Lib.hid (HB.out.trans (b1.mono HB.out.size))
 clear b1
 go_wp2_with fail
 refine hK.out _ _ ⟨fun _ => HB.out, ?_⟩
 have hHeld := HB.out
 clear hK
 try simp only [Act.put, List.setIfInBounds_toArray, List.set_cons_zero, List.set_cons_succ]
 refine AnyE.take (i := 36) (.bool false) rfl (by kernel_rfl) (by kernel_rfl) (by kernel_rfl) (by kernel_rfl) (fun _ _ _ h => h) (.inl ⟨by kernel_rfl, fun wy hy => by (go_simp; done)⟩) hHeld ?_
 try simp only [Act.put, List.setIfInBounds_toArray, List.set_cons_zero, List.set_cons_succ]
 refine AnyE.take (i := 37) (.bool false) rfl (by kernel_rfl) (by kernel_rfl) (by kernel_rfl) (by kernel_rfl) (fun _ _ _ h => h) (.inl ⟨by kernel_rfl, fun wy hy => by (go_simp; done)⟩) hHeld ?_
 try simp only [Act.put, List.setIfInBounds_toArray, List.set_cons_zero, List.set_cons_succ]
 refine AnyE.done (by kernel_rfl) (NoPanic.normal ?_) _
 exact hQ.out _ HB.out
end Go.Proofs.YtpabbnddeklpdaaGreat
