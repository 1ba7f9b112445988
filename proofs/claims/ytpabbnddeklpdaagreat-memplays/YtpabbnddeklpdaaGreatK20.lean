import Derived.Test.YtpabbnddeklpdaaGreatK19
namespace Go.Proofs.YtpabbnddeklpdaaGreat
open Go.RowKit Go.Shelf
set_option linter.unusedVariables false
set_option linter.unusedSimpArgs false
attribute [local go_sem] Oper.semAt_some

structure Gi2 (wr Z : World) (X : Nat → Prop) (l : List EntD) (v : Value) (b9 : Nat) : Prop where
 rd : RdX X Z v l
 bel : Below wr.heap.size wr Z
 box : Bxd Z b9 27 v
 lo : wr.heap.size ≤ b9
theorem gi2_of {wr Z : World} {X : Nat → Prop} {l : List EntD} {v u : Value} {b9 : Nat} (bel : Below wr.heap.size wr Z) (rd : RdX X Z v l) (box : Bxd Z b9 27 u) (lo : wr.heap.size ≤ b9) (hX : ∀ k, X k → k < wr.heap.size) : Gi2 wr (Z.setCell ⟨b9, 0, none⟩ v) X l v b9 := by
 have fs : Fb Z (Z.setCell ⟨b9, 0, none⟩ v) (fun k => k = b9) := Fb.set1 (O := fun k => k = b9) rfl _
 exact ⟨rd.keptC (KpC.of_fb fs (fun k hk e => by have e' : k = b9 := e; have := hX k hk; omega)), bel.setCell (p := ⟨b9, 0, none⟩) lo v, box.set v, lo⟩
def pgiv2Ops : Array Oper := #[{ dst := some 20, op := Op.move (Operand.tmp 0), type := 24, pos := "law.go:172", after := #[], guard := none }, { dst := some 21, op := Op.nilCheck (Operand.tmp 20), type := 0, pos := "law.go:172", after := #[{ on := 0, ground := Ground.data }], guard := none }, { dst := some 22, op := Op.fieldAddr 31 (Operand.tmp 21) 1, type := 0, pos := "law.go:172", after := #[{ on := 1, ground := Ground.data }], guard := none }, { dst := some 23, op := Op.load 29 (Operand.tmp 22), type := 29, pos := "law.go:172", after := #[{ on := 2, ground := Ground.data }], guard := none }, { dst := some 24, op := Op.load 38 (Operand.tmp 12), type := 38, pos := "law.go:172", after := #[], guard := none }, { dst := some 25, op := Op.call { callee := Callee.value (Operand.func 10), args := #[Operand.tmp 23, Operand.tmp 24], argTypes := #[29, 38] }, type := 27, pos := "law.go:172", after := #[{ on := 3, ground := Ground.data }, { on := 4, ground := Ground.data }], guard := none }, { dst := some 13, op := Op.alloc 27, type := 0, pos := "law.go:172", after := #[], guard := none }, { dst := none, op := Op.store 27 (Operand.tmp 13) (Operand.tmp 25), type := 0, pos := "law.go:172", after := #[{ on := 6, ground := Ground.data }, { on := 5, ground := Ground.data }, { on := 5, ground := Ground.chain }, { on := 0, ground := Ground.phase }, { on := 1, ground := Ground.phase }, { on := 2, ground := Ground.phase }, { on := 3, ground := Ground.phase }, { on := 4, ground := Ground.phase }, { on := 5, ground := Ground.phase }, { on := 6, ground := Ground.phase }], guard := none }]
set_option maxRecDepth 100000 in
set_option maxHeartbeats 16000000 in
theorem pgiv2_region {wr : World} {X : Nat → Prop} {R : List EntD} {p : EntD → Bool} {f : Bool} {x : EntD} {pB b2 m c : Nat} {a : Option Addr} {Q : Exit → Act → World → Prop} {s1 s2 s3 s4 s5 s6 s7 s8 s9 s10 s11 s13 s14 s15 s16 s17 s18 s19 s20 s21 s22 s23 s24 s25 s26 s27 s28 s29 s30 s31 s32 s33 s34 s35 s36 s37 s38 s39 s40 s41 s42 s43 s44 s45 s46 s47 s48 s49 s50 s51 s52 s53 s54 s55 s56 s57 s58 s59 s60 s61 s62 s63 s64 s65 s66 s67 s68 s69 s70 s71 s72 s73 s74 s75 s76 : Value}
  (hPc : wr.cell? ⟨pB, 1, none⟩ = some (.slice a m c) ∧ wr.cell? ⟨pB, 2, none⟩ = some (.bool f)) (hDc : wr.cell? ⟨b2, 0, none⟩ = some (x.vr) ∧ wr.cell? ⟨b2, 1, none⟩ = some (.int .i64 x.fam) ∧ wr.cell? ⟨b2, 2, none⟩ = some (x.vq) ∧ wr.cell? ⟨b2, 3, none⟩ = some (.int .i64 x.ts) ∧ wr.cell? ⟨b2, 4, none⟩ = some (.int .i64 x.seq) ∧ wr.cell? ⟨b2, 5, none⟩ = some (.int .i64 x.kind) ∧ wr.cell? ⟨b2, 6, none⟩ = some (x.vv)) (hX : Hid (∀ k, X k → k < wr.heap.size)) (hR : Hid (RdX X wr (.slice a m c) R))
  (hA : Hid (∀ Z, Below wr.heap.size wr Z → Calls Tryz.prog 10 #[.agg #[.slice a m c, .bool f], .agg #[x.vr, .int .i64 x.fam, x.vq, .int .i64 x.ts, .int .i64 x.seq, .int .i64 x.kind, x.vv]] Z (fun z w' => ∃ v, z = .returned v ∧ RdL w' v (R.dropWhile p) ∧ (∀ k, v.ownBlock = some k → (Value.slice a m c).ownBlock = some k) ∧ Below Z.heap.size Z w')))
  (hQ : Hid (∀ (a' : Option Addr) (m' k' : Nat) (b9 : Nat) (Z : World), Gi2 wr Z X (R.dropWhile p) (.slice a' m' k') b9 → Q .normal ({ tmps := List.toArray ((.pointer (some ⟨pB, 0, none⟩) : Value) :: (s1 : Value) :: (s2 : Value) :: (s3 : Value) :: (s4 : Value) :: (s5 : Value) :: (s6 : Value) :: (s7 : Value) :: (s8 : Value) :: (s9 : Value) :: (s10 : Value) :: (s11 : Value) :: (.pointer (some ⟨b2, 0, none⟩) : Value) :: (.pointer (some ⟨b9, 0, none⟩) : Value) :: (s14 : Value) :: (s15 : Value) :: (s16 : Value) :: (s17 : Value) :: (s18 : Value) :: (s19 : Value) :: (.pointer (some ⟨pB, 0, none⟩) : Value) :: (.pointer (some ⟨pB, 0, none⟩) : Value) :: (.pointer (some ⟨pB, 1, none⟩) : Value) :: (.agg #[.slice a m c, .bool f] : Value) :: (.agg #[x.vr, .int .i64 x.fam, x.vq, .int .i64 x.ts, .int .i64 x.seq, .int .i64 x.kind, x.vv] : Value) :: ((.slice a' m' k') : Value) :: (s26 : Value) :: (s27 : Value) :: (s28 : Value) :: (s29 : Value) :: (s30 : Value) :: (s31 : Value) :: (s32 : Value) :: (s33 : Value) :: (s34 : Value) :: (s35 : Value) :: (s36 : Value) :: (s37 : Value) :: (s38 : Value) :: (s39 : Value) :: (s40 : Value) :: (s41 : Value) :: (s42 : Value) :: (s43 : Value) :: (s44 : Value) :: (s45 : Value) :: (s46 : Value) :: (s47 : Value) :: (s48 : Value) :: (s49 : Value) :: (s50 : Value) :: (s51 : Value) :: (s52 : Value) :: (s53 : Value) :: (s54 : Value) :: (s55 : Value) :: (s56 : Value) :: (s57 : Value) :: (s58 : Value) :: (s59 : Value) :: (s60 : Value) :: (s61 : Value) :: (s62 : Value) :: (s63 : Value) :: (s64 : Value) :: (s65 : Value) :: (s66 : Value) :: (s67 : Value) :: (s68 : Value) :: (s69 : Value) :: (s70 : Value) :: (s71 : Value) :: (s72 : Value) :: (s73 : Value) :: (s74 : Value) :: (s75 : Value) :: (s76 : Value) :: []), defers := [] } : Act) Z)) : Code.wp Tryz.prog (Code.region 2 pgiv2Ops true) Q ({ tmps := List.toArray ((.pointer (some ⟨pB, 0, none⟩) : Value) :: (s1 : Value) :: (s2 : Value) :: (s3 : Value) :: (s4 : Value) :: (s5 : Value) :: (s6 : Value) :: (s7 : Value) :: (s8 : Value) :: (s9 : Value) :: (s10 : Value) :: (s11 : Value) :: (.pointer (some ⟨b2, 0, none⟩) : Value) :: (s13 : Value) :: (s14 : Value) :: (s15 : Value) :: (s16 : Value) :: (s17 : Value) :: (s18 : Value) :: (s19 : Value) :: (s20 : Value) :: (s21 : Value) :: (s22 : Value) :: (s23 : Value) :: (s24 : Value) :: (s25 : Value) :: (s26 : Value) :: (s27 : Value) :: (s28 : Value) :: (s29 : Value) :: (s30 : Value) :: (s31 : Value) :: (s32 : Value) :: (s33 : Value) :: (s34 : Value) :: (s35 : Value) :: (s36 : Value) :: (s37 : Value) :: (s38 : Value) :: (s39 : Value) :: (s40 : Value) :: (s41 : Value) :: (s42 : Value) :: (s43 : Value) :: (s44 : Value) :: (s45 : Value) :: (s46 : Value) :: (s47 : Value) :: (s48 : Value) :: (s49 : Value) :: (s50 : Value) :: (s51 : Value) :: (s52 : Value) :: (s53 : Value) :: (s54 : Value) :: (s55 : Value) :: (s56 : Value) :: (s57 : Value) :: (s58 : Value) :: (s59 : Value) :: (s60 : Value) :: (s61 : Value) :: (s62 : Value) :: (s63 : Value) :: (s64 : Value) :: (s65 : Value) :: (s66 : Value) :: (s67 : Value) :: (s68 : Value) :: (s69 : Value) :: (s70 : Value) :: (s71 : Value) :: (s72 : Value) :: (s73 : Value) :: (s74 : Value) :: (s75 : Value) :: (s76 : Value) :: []), defers := [] } : Act) wr := by
 have HPc := Lib.hid hPc
 have HDc := Lib.hid hDc
 clear hPc hDc
 unfold pgiv2Ops
 have BD : Below wr.heap.size wr wr.drew := (Below.refl _ _).drew
 refine wp_region_noPanic ?_
 refine wp_region_anyE (S := fun wx => Below wr.heap.size wr wx) (E := fun _ => true) (by kernel_rfl) ?_
 have hHeld : Below wr.heap.size wr wr.drew := BD
 have HB := Lib.hid BD
 obtain ⟨Z0, hZ0⟩ : ∃ z, z = wr.drew := ⟨_, rfl⟩
 rw [← hZ0] at HB hHeld ⊢
 clear hZ0 BD
 refine AnyE.take (i := 0) (.pointer (some ⟨pB, 0, none⟩)) rfl (by kernel_rfl) (by kernel_rfl) (by kernel_rfl) (by kernel_rfl) (fun _ _ _ h => h) (.inl ⟨by kernel_rfl, fun wy hy => by (go_simp; done)⟩) hHeld ?_
 try simp only [Act.put, List.setIfInBounds_toArray, List.set_cons_zero, List.set_cons_succ]
 refine AnyE.take (i := 1) (.pointer (some ⟨pB, 0, none⟩)) rfl (by kernel_rfl) (by kernel_rfl) (by kernel_rfl) (by kernel_rfl) (fun _ _ _ h => h) (.inl ⟨by kernel_rfl, fun wy hy => by (go_simp; done)⟩) hHeld ?_
 try simp only [Act.put, List.setIfInBounds_toArray, List.set_cons_zero, List.set_cons_succ]
 refine AnyE.take (i := 2) (.pointer (some ⟨pB, 1, none⟩)) rfl (by kernel_rfl) (by kernel_rfl) (by kernel_rfl) (by kernel_rfl) (fun _ _ _ h => h) (.inl ⟨by kernel_rfl, fun wy hy => by (go_simp; done)⟩) hHeld ?_
 try simp only [Act.put, List.setIfInBounds_toArray, List.set_cons_zero, List.set_cons_succ]
 refine AnyE.take (i := 3) (.agg #[.slice a m c, .bool f]) rfl (by kernel_rfl) (by kernel_rfl) (by kernel_rfl) (by kernel_rfl) (fun _ _ _ h => h) (.inl ⟨by kernel_rfl, fun wy hy => by (have q0 := (hy.cell (p := ⟨pB, 1, none⟩) (World.block_lt_of_cell? _ _ HPc.out.1)).trans HPc.out.1; have q1 := (hy.cell (p := ⟨pB, 2, none⟩) (World.block_lt_of_cell? _ _ HPc.out.2)).trans HPc.out.2; go_simp; done)⟩) hHeld ?_
 try simp only [Act.put, List.setIfInBounds_toArray, List.set_cons_zero, List.set_cons_succ]
 refine AnyE.take (i := 4) (.agg #[x.vr, .int .i64 x.fam, x.vq, .int .i64 x.ts, .int .i64 x.seq, .int .i64 x.kind, x.vv]) rfl (by kernel_rfl) (by kernel_rfl) (by kernel_rfl) (by kernel_rfl) (fun _ _ _ h => h) (.inl ⟨by kernel_rfl, fun wy hy => by (have c0 := (hy.cell (p := ⟨b2, 0, none⟩) (World.block_lt_of_cell? _ _ HDc.out.1)).trans HDc.out.1; have c1 := (hy.cell (p := ⟨b2, 1, none⟩) (World.block_lt_of_cell? _ _ HDc.out.2.1)).trans HDc.out.2.1; have c2 := (hy.cell (p := ⟨b2, 2, none⟩) (World.block_lt_of_cell? _ _ HDc.out.2.2.1)).trans HDc.out.2.2.1; have c3 := (hy.cell (p := ⟨b2, 3, none⟩) (World.block_lt_of_cell? _ _ HDc.out.2.2.2.1)).trans HDc.out.2.2.2.1; have c4 := (hy.cell (p := ⟨b2, 4, none⟩) (World.block_lt_of_cell? _ _ HDc.out.2.2.2.2.1)).trans HDc.out.2.2.2.2.1; have c5 := (hy.cell (p := ⟨b2, 5, none⟩) (World.block_lt_of_cell? _ _ HDc.out.2.2.2.2.2.1)).trans HDc.out.2.2.2.2.2.1; have c6 := (hy.cell (p := ⟨b2, 6, none⟩) (World.block_lt_of_cell? _ _ HDc.out.2.2.2.2.2.2)).trans HDc.out.2.2.2.2.2.2; go_simp; done)⟩) hHeld ?_
 try simp only [Act.put, List.setIfInBounds_toArray, List.set_cons_zero, List.set_cons_succ]
 refine AnyE.twoF (i := 5) (j := 6) rfl rfl (by kernel_rfl) (by kernel_rfl) (by kernel_rfl) (fun KK hK => ?_) (fun KK hK => ?_)
 ·go_simp
  go_at_call 10
  refine (hA.out _ HB.out).mono ?_
  rintro e9 Z1 ⟨v, rfl, rd, rl, b1⟩
  obtain ⟨a', k', rfl⟩ := rd.slice
  obtain ⟨m', hm'⟩ : ∃ m', m' = (R.dropWhile p).length := ⟨_, rfl⟩
  rw [← hm'] at rd rl ⊢
  have HR := Lib.hid (And.intro rd (And.intro rl b1))
  have HZ := Lib.hid HB.out
  have HB := Lib.hid (HB.out.trans (b1.mono HB.out.size))
  clear rd rl b1 hm'
  go_wp2_with fail
  refine hK.out _ _ ⟨fun _ => HB.out, ?_⟩
  have hHeld := HB.out
  clear hK
  try simp only [Act.put, List.setIfInBounds_toArray, List.set_cons_zero, List.set_cons_succ]
  refine AnyE.one (i := 6) rfl (by kernel_rfl) (by kernel_rfl) (fun KK hK => ?_)
  go_simp
  have bA := (Below.refl Z1.heap.size Z1).alloc (Nat.le_refl _) (.cells #[.slice none 0 0] 27)
  have eA : Bxd (Z1.alloc (.cells #[.slice none 0 0] 27)) Z1.heap.size 27 (.slice none 0 0) := Bxd.new Z1 _ _
  have tA : (Z1.alloc (.cells #[.slice none 0 0] 27)).heap.size = Z1.heap.size + 1 := by simp
  obtain ⟨Z2, hZ⟩ : ∃ z, z = Z1.alloc (.cells #[.slice none 0 0] 27) := ⟨_, rfl⟩
  rw [← hZ] at bA eA tA ⊢
  clear hZ
  have HE := Lib.hid (And.intro eA (And.intro tA bA))
  have HA9 := Lib.hid HB.out
  have HB := Lib.hid (HB.out.trans (bA.mono HB.out.size))
  clear bA eA tA
  refine hK.out _ _ ⟨fun _ => HB.out, ?_⟩
  have hHeld := HB.out
  clear hK
  try simp only [Act.put, List.setIfInBounds_toArray, List.set_cons_zero, List.set_cons_succ]
  have HX9 := Lib.hid (HE.out.1)
  have z0 := HX9.out.cell
  have f0 := HX9.out.fz
  have HD9 := Lib.hid (gi2_of (HZ.out.trans ((HR.out.2.2.trans (HE.out.2.2.mono HR.out.2.2.size)).mono HZ.out.size)) (((hR.out.keptC (KpC.of_below HZ.out)).drop HR.out.2.2 HR.out.1 HR.out.2.1).keptC (KpC.of_below HE.out.2.2)) HE.out.1 (by have := HZ.out.size; have := HR.out.2.2.size; omega) hX.out)
  refine AnyE.one (i := 7) rfl (by kernel_rfl) (by kernel_rfl) (fun KK hK => ?_)
  go_simp
  refine hK.out _ _ ⟨fun _ => HD9.out.bel, ?_⟩
  clear hK z0 f0
  try simp only [Act.put, List.setIfInBounds_toArray, List.set_cons_zero, List.set_cons_succ]
  refine AnyE.done (by kernel_rfl) (NoPanic.normal ?_) _
  exact hQ.out _ _ _ _ _ HD9.out
 ·go_simp
  have bA := (Below.refl Z0.heap.size Z0).alloc (Nat.le_refl _) (.cells #[.slice none 0 0] 27)
  have eA : Bxd (Z0.alloc (.cells #[.slice none 0 0] 27)) Z0.heap.size 27 (.slice none 0 0) := Bxd.new Z0 _ _
  have tA : (Z0.alloc (.cells #[.slice none 0 0] 27)).heap.size = Z0.heap.size + 1 := by simp
  obtain ⟨Z1, hZ⟩ : ∃ z, z = Z0.alloc (.cells #[.slice none 0 0] 27) := ⟨_, rfl⟩
  rw [← hZ] at bA eA tA ⊢
  clear hZ
  have HE := Lib.hid (And.intro eA (And.intro tA bA))
  have HA9 := Lib.hid HB.out
  have HB := Lib.hid (HB.out.trans (bA.mono HB.out.size))
  clear bA eA tA
  refine hK.out _ _ ⟨fun _ => HB.out, ?_⟩
  have hHeld := HB.out
  clear hK
  try simp only [Act.put, List.setIfInBounds_toArray, List.set_cons_zero, List.set_cons_succ]
  refine AnyE.one (i := 5) rfl (by kernel_rfl) (by kernel_rfl) (fun KK hK => ?_)
  go_simp
  go_at_call 10
  refine (hA.out _ HB.out).mono ?_
  rintro e9 Z2 ⟨v, rfl, rd, rl, b1⟩
  obtain ⟨a', k', rfl⟩ := rd.slice
  obtain ⟨m', hm'⟩ : ∃ m', m' = (R.dropWhile p).length := ⟨_, rfl⟩
  rw [← hm'] at rd rl ⊢
  have HR := Lib.hid (And.intro rd (And.intro rl b1))
  have HZ := Lib.hid HB.out
  have HB := Lib.hid (HB.out.trans (b1.mono HB.out.size))
  clear rd rl b1 hm'
  go_wp2_with fail
  refine hK.out _ _ ⟨fun _ => HB.out, ?_⟩
  have hHeld := HB.out
  clear hK
  try simp only [Act.put, List.setIfInBounds_toArray, List.set_cons_zero, List.set_cons_succ]
  have HX9 := Lib.hid (Bxd.keep HE.out.1 (HR.out.2.2.block _ HE.out.1.lt))
  have z0 := HX9.out.cell
  have f0 := HX9.out.fz
  have HD9 := Lib.hid (gi2_of (HZ.out.trans (HR.out.2.2.mono HZ.out.size)) ((hR.out.keptC (KpC.of_below HZ.out)).drop HR.out.2.2 HR.out.1 HR.out.2.1) (Bxd.keep HE.out.1 (HR.out.2.2.block _ HE.out.1.lt)) HA9.out.size hX.out)
  refine AnyE.one (i := 7) rfl (by kernel_rfl) (by kernel_rfl) (fun KK hK => ?_)
  go_simp
  refine hK.out _ _ ⟨fun _ => HD9.out.bel, ?_⟩
  clear hK z0 f0
  try simp only [Act.put, List.setIfInBounds_toArray, List.set_cons_zero, List.set_cons_succ]
  refine AnyE.done (by kernel_rfl) (NoPanic.normal ?_) _
  exact hQ.out _ _ _ _ _ HD9.out
def pgiv4Ops : Array Oper := #[{ dst := some 26, op := Op.move (Operand.tmp 0), type := 24, pos := "law.go:174", after := #[], guard := none }, { dst := some 27, op := Op.nilCheck (Operand.tmp 26), type := 0, pos := "law.go:174", after := #[{ on := 0, ground := Ground.data }], guard := none }, { dst := some 28, op := Op.fieldAddr 31 (Operand.tmp 27) 0, type := 0, pos := "law.go:174", after := #[{ on := 1, ground := Ground.data }], guard := none }, { dst := some 29, op := Op.load 25 (Operand.tmp 28), type := 25, pos := "law.go:174", after := #[{ on := 2, ground := Ground.data }], guard := none }, { dst := some 30, op := Op.load 38 (Operand.tmp 11), type := 38, pos := "law.go:174", after := #[], guard := none }, { dst := some 31, op := Op.call { callee := Callee.value (Operand.func 7), args := #[Operand.tmp 29, Operand.tmp 30], argTypes := #[25, 38] }, type := 43, pos := "law.go:174", after := #[{ on := 3, ground := Ground.data }, { on := 4, ground := Ground.data }], guard := none }]
def Gi4 (wr Z : World) (tB : Nat) (x x0 : EntD) (Bt Bf : Nat) : Prop := wr.heap.size ≤ Bt ∧ Below wr.heap.size wr Z ∧ Bxd Z Bt 25 (.pointer (some ⟨tB, 0, none⟩)) ∧ EBox Z Bf x0 ∧ EntD.Same x0 { x with vv := .slice none 0 0, val := [] } ∧ EOk (fun i => Bt ≤ i) Z x0 ∧ (Bt + 2 ≤ Z.heap.size ∧ Bt + 2 ≤ Bf ∧ Bf < Z.heap.size)
set_option maxRecDepth 100000 in
set_option maxHeartbeats 16000000 in
theorem pgiv4_region {wr : World} {x : EntD} {pB tB b1 : Nat} {Q : Exit → Act → World → Prop} {s1 s2 s3 s4 s5 s6 s7 s8 s9 s10 s12 s13 s14 s15 s16 s17 s18 s19 s20 s21 s22 s23 s24 s25 s26 s27 s28 s29 s30 s31 s32 s33 s34 s35 s36 s37 s38 s39 s40 s41 s42 s43 s44 s45 s46 s47 s48 s49 s50 s51 s52 s53 s54 s55 s56 s57 s58 s59 s60 s61 s62 s63 s64 s65 s66 s67 s68 s69 s70 s71 s72 s73 s74 s75 s76 : Value}
  (hPc : wr.cell? ⟨pB, 0, none⟩ = some (.pointer (some ⟨tB, 0, none⟩))) (hDc : wr.cell? ⟨b1, 0, none⟩ = some (x.vr) ∧ wr.cell? ⟨b1, 1, none⟩ = some (.int .i64 x.fam) ∧ wr.cell? ⟨b1, 2, none⟩ = some (x.vq) ∧ wr.cell? ⟨b1, 3, none⟩ = some (.int .i64 x.ts) ∧ wr.cell? ⟨b1, 4, none⟩ = some (.int .i64 x.seq) ∧ wr.cell? ⟨b1, 5, none⟩ = some (.int .i64 x.kind) ∧ wr.cell? ⟨b1, 6, none⟩ = some (x.vv))
  (hA : Hid (∀ Z, Below wr.heap.size wr Z → Calls Tryz.prog 7 #[.pointer (some ⟨tB, 0, none⟩), .agg #[x.vr, .int .i64 x.fam, x.vq, .int .i64 x.ts, .int .i64 x.seq, .int .i64 x.kind, x.vv]] Z (fun z w' => ∃ Bf x0, z = .returned (.func (.func 25) #[] #[.pointer (some ⟨Z.heap.size, 0, none⟩), .pointer (some ⟨Bf, 0, none⟩)]) ∧ Bxd w' Z.heap.size 25 (.pointer (some ⟨tB, 0, none⟩)) ∧ EBox w' Bf x0 ∧ EntD.Same x0 { x with vv := .slice none 0 0, val := [] } ∧ EOk (fun i => Z.heap.size ≤ i) w' x0 ∧ Below Z.heap.size Z w' ∧ Z.heap.size + 2 ≤ w'.heap.size ∧ Z.heap.size + 2 ≤ Bf ∧ Bf < w'.heap.size)))
  (hQ : Hid (∀ (Bt Bf : Nat) (x0 : EntD) (Zs Z : World), Gi4 wr Z tB x x0 Bt Bf → Q .normal ({ tmps := List.toArray ((.pointer (some ⟨pB, 0, none⟩) : Value) :: (s1 : Value) :: (s2 : Value) :: (s3 : Value) :: (s4 : Value) :: (s5 : Value) :: (s6 : Value) :: (s7 : Value) :: (s8 : Value) :: (s9 : Value) :: (s10 : Value) :: (.pointer (some ⟨b1, 0, none⟩) : Value) :: (s12 : Value) :: (s13 : Value) :: (s14 : Value) :: (s15 : Value) :: (s16 : Value) :: (s17 : Value) :: (s18 : Value) :: (s19 : Value) :: (s20 : Value) :: (s21 : Value) :: (s22 : Value) :: (s23 : Value) :: (s24 : Value) :: (s25 : Value) :: (.pointer (some ⟨pB, 0, none⟩) : Value) :: (.pointer (some ⟨pB, 0, none⟩) : Value) :: (.pointer (some ⟨pB, 0, none⟩) : Value) :: (.pointer (some ⟨tB, 0, none⟩) : Value) :: (.agg #[x.vr, .int .i64 x.fam, x.vq, .int .i64 x.ts, .int .i64 x.seq, .int .i64 x.kind, x.vv] : Value) :: ((.func (.func 25) #[] #[.pointer (some ⟨Bt, 0, none⟩), .pointer (some ⟨Bf, 0, none⟩)]) : Value) :: (s32 : Value) :: (s33 : Value) :: (s34 : Value) :: (s35 : Value) :: (s36 : Value) :: (s37 : Value) :: (s38 : Value) :: (s39 : Value) :: (s40 : Value) :: (s41 : Value) :: (s42 : Value) :: (s43 : Value) :: (s44 : Value) :: (s45 : Value) :: (s46 : Value) :: (s47 : Value) :: (s48 : Value) :: (s49 : Value) :: (s50 : Value) :: (s51 : Value) :: (s52 : Value) :: (s53 : Value) :: (s54 : Value) :: (s55 : Value) :: (s56 : Value) :: (s57 : Value) :: (s58 : Value) :: (s59 : Value) :: (s60 : Value) :: (s61 : Value) :: (s62 : Value) :: (s63 : Value) :: (s64 : Value) :: (s65 : Value) :: (s66 : Value) :: (s67 : Value) :: (s68 : Value) :: (s69 : Value) :: (s70 : Value) :: (s71 : Value) :: (s72 : Value) :: (s73 : Value) :: (s74 : Value) :: (s75 : Value) :: (s76 : Value) :: []), defers := [] } : Act) Z)) : Code.wp Tryz.prog (Code.region 4 pgiv4Ops true) Q ({ tmps := List.toArray ((.pointer (some ⟨pB, 0, none⟩) : Value) :: (s1 : Value) :: (s2 : Value) :: (s3 : Value) :: (s4 : Value) :: (s5 : Value) :: (s6 : Value) :: (s7 : Value) :: (s8 : Value) :: (s9 : Value) :: (s10 : Value) :: (.pointer (some ⟨b1, 0, none⟩) : Value) :: (s12 : Value) :: (s13 : Value) :: (s14 : Value) :: (s15 : Value) :: (s16 : Value) :: (s17 : Value) :: (s18 : Value) :: (s19 : Value) :: (s20 : Value) :: (s21 : Value) :: (s22 : Value) :: (s23 : Value) :: (s24 : Value) :: (s25 : Value) :: (s26 : Value) :: (s27 : Value) :: (s28 : Value) :: (s29 : Value) :: (s30 : Value) :: (s31 : Value) :: (s32 : Value) :: (s33 : Value) :: (s34 : Value) :: (s35 : Value) :: (s36 : Value) :: (s37 : Value) :: (s38 : Value) :: (s39 : Value) :: (s40 : Value) :: (s41 : Value) :: (s42 : Value) :: (s43 : Value) :: (s44 : Value) :: (s45 : Value) :: (s46 : Value) :: (s47 : Value) :: (s48 : Value) :: (s49 : Value) :: (s50 : Value) :: (s51 : Value) :: (s52 : Value) :: (s53 : Value) :: (s54 : Value) :: (s55 : Value) :: (s56 : Value) :: (s57 : Value) :: (s58 : Value) :: (s59 : Value) :: (s60 : Value) :: (s61 : Value) :: (s62 : Value) :: (s63 : Value) :: (s64 : Value) :: (s65 : Value) :: (s66 : Value) :: (s67 : Value) :: (s68 : Value) :: (s69 : Value) :: (s70 : Value) :: (s71 : Value) :: (s72 : Value) :: (s73 : Value) :: (s74 : Value) :: (s75 : Value) :: (s76 : Value) :: []), defers := [] } : Act) wr := by
 have HPc := Lib.hid hPc
 have HDc := Lib.hid hDc
 clear hPc hDc
 unfold pgiv4Ops
 have BD : Below wr.heap.size wr wr.drew := (Below.refl _ _).drew
 refine wp_region_noPanic ?_
 refine wp_region_anyE (S := fun wx => Below wr.heap.size wr wx) (E := fun _ => true) (by kernel_rfl) ?_
 have hHeld : Below wr.heap.size wr wr.drew := BD
 have HB := Lib.hid BD
 obtain ⟨Z0, hZ0⟩ : ∃ z, z = wr.drew := ⟨_, rfl⟩
 rw [← hZ0] at HB hHeld ⊢
 clear hZ0 BD
 refine AnyE.take (i := 0) (.pointer (some ⟨pB, 0, none⟩)) rfl (by kernel_rfl) (by kernel_rfl) (by kernel_rfl) (by kernel_rfl) (fun _ _ _ h => h) (.inl ⟨by kernel_rfl, fun wy hy => by (go_simp; done)⟩) hHeld ?_
 try simp only [Act.put, List.setIfInBounds_toArray, List.set_cons_zero, List.set_cons_succ]
 refine AnyE.take (i := 1) (.pointer (some ⟨pB, 0, none⟩)) rfl (by kernel_rfl) (by kernel_rfl) (by kernel_rfl) (by kernel_rfl) (fun _ _ _ h => h) (.inl ⟨by kernel_rfl, fun wy hy => by (go_simp; done)⟩) hHeld ?_
 try simp only [Act.put, List.setIfInBounds_toArray, List.set_cons_zero, List.set_cons_succ]
 refine AnyE.take (i := 2) (.pointer (some ⟨pB, 0, none⟩)) rfl (by kernel_rfl) (by kernel_rfl) (by kernel_rfl) (by kernel_rfl) (fun _ _ _ h => h) (.inl ⟨by kernel_rfl, fun wy hy => by (go_simp; done)⟩) hHeld ?_
 try simp only [Act.put, List.setIfInBounds_toArray, List.set_cons_zero, List.set_cons_succ]
 refine AnyE.take (i := 3) (.pointer (some ⟨tB, 0, none⟩)) rfl (by kernel_rfl) (by kernel_rfl) (by kernel_rfl) (by kernel_rfl) (fun _ _ _ h => h) (.inl ⟨by kernel_rfl, fun wy hy => by (have q0 := (hy.cell (p := ⟨pB, 0, none⟩) (World.block_lt_of_cell? _ _ HPc.out)).trans HPc.out; go_simp; done)⟩) hHeld ?_
 try simp only [Act.put, List.setIfInBounds_toArray, List.set_cons_zero, List.set_cons_succ]
 refine AnyE.take (i := 4) (.agg #[x.vr, .int .i64 x.fam, x.vq, .int .i64 x.ts, .int .i64 x.seq, .int .i64 x.kind, x.vv]) rfl (by kernel_rfl) (by kernel_rfl) (by kernel_rfl) (by kernel_rfl) (fun _ _ _ h => h) (.inl ⟨by kernel_rfl, fun wy hy => by (have c0 := (hy.cell (p := ⟨b1, 0, none⟩) (World.block_lt_of_cell? _ _ HDc.out.1)).trans HDc.out.1; have c1 := (hy.cell (p := ⟨b1, 1, none⟩) (World.block_lt_of_cell? _ _ HDc.out.2.1)).trans HDc.out.2.1; have c2 := (hy.cell (p := ⟨b1, 2, none⟩) (World.block_lt_of_cell? _ _ HDc.out.2.2.1)).trans HDc.out.2.2.1; have c3 := (hy.cell (p := ⟨b1, 3, none⟩) (World.block_lt_of_cell? _ _ HDc.out.2.2.2.1)).trans HDc.out.2.2.2.1; have c4 := (hy.cell (p := ⟨b1, 4, none⟩) (World.block_lt_of_cell? _ _ HDc.out.2.2.2.2.1)).trans HDc.out.2.2.2.2.1; have c5 := (hy.cell (p := ⟨b1, 5, none⟩) (World.block_lt_of_cell? _ _ HDc.out.2.2.2.2.2.1)).trans HDc.out.2.2.2.2.2.1; have c6 := (hy.cell (p := ⟨b1, 6, none⟩) (World.block_lt_of_cell? _ _ HDc.out.2.2.2.2.2.2)).trans HDc.out.2.2.2.2.2.2; go_simp; done)⟩) hHeld ?_
 try simp only [Act.put, List.setIfInBounds_toArray, List.set_cons_zero, List.set_cons_succ]
 refine AnyE.one (i := 5) rfl (by kernel_rfl) (by kernel_rfl) (fun KK hK => ?_)
 go_simp
 go_at_call 7
 refine (hA.out _ HB.out).mono ?_
 rintro e9 w1 ⟨Bf, x0, rfl, k1, k2, k3, k4, k5, k6⟩
 have HR := Lib.hid (And.intro k1 (And.intro k2 (And.intro k3 (And.intro k4 k6))))
 have HZ := Lib.hid HB.out
 have HB := Lib.hid (HB.out.trans (k5.mono HB.out.size))
 clear k1 k2 k3 k4 k5 k6
 go_wp2_with fail
 refine hK.out _ _ ⟨fun _ => HB.out, ?_⟩
 clear hK
 try simp only [Act.put, List.setIfInBounds_toArray, List.set_cons_zero, List.set_cons_succ]
 refine AnyE.done (by kernel_rfl) (NoPanic.normal ?_) _
 exact hQ.out _ _ _ wr _ ⟨HZ.out.size, HB.out, HR.out⟩
end Go.Proofs.YtpabbnddeklpdaaGreat

namespace Go.Proofs.YtpabbnddeklpdaaGreat
open Go.RowKit Go.Shelf
set_option linter.unusedVariables false

def GI (w : World) (nb pB tB g : Nat) (X FO : Nat → Prop) (R : List EntD) (lv : Value) (f : Bool) (c : Nat → Nat) (J : World → Prop) (Bs : Nat → World → Prop) (n : Nat) (W : World) (X' FO' : Nat → Prop) (L' R' : List EntD) (lv' : Value) : Prop :=
 RC w W nb pB tB g X FO X' FO' L' R' lv' f ∧ RdX X W lv R ∧ Bs n W ∧ J W ∧ L'.length ≤ c n ∧ n ≤ R.length
def BsK (w : World) (nb : Nat) (Bs : Nat → World → Prop) : Prop := ∀ n W Z, Bs n W → KpC (fun k => w.heap.size ≤ k ∧ k < nb) W Z → Bs n Z
variable {w : World} {nb pB tB g n : Nat} {X FO : Nat → Prop} {L R Rw : List EntD} {lv wv : Value} {f : Bool} {c : Nat → Nat} {C : Nat → Prop} {J : World → Prop} {Bs : Nat → World → Prop} {W Z : World} {X' FO' : Nat → Prop} {L' R' : List EntD} {lv' : Value} {fn : Nat} {lb : Array Value}
theorem GI.turn {B : Nat} (hD : Doer pB tB g f fn lb c C J) (hK : BsK w nb Bs) (h : GI w nb pB tB g X FO Rw wv f c J Bs n W X' FO' L' R' lv') (hB : w.heap.size ≤ B) (t : Turn B W Z) : GI w nb pB tB g X FO Rw wv f c J Bs n Z X' FO' L' R' lv' :=
 ⟨h.1.turn hB t, h.2.1.keptC t.toC, hK _ _ _ h.2.2.1 t.toC, hD.keep _ _ h.2.2.2.1 t.toC, h.2.2.2.2⟩
theorem GI.later (hD : Doer pB tB g f fn lb c C J) (hK : BsK w nb Bs) (h : GI w nb pB tB g X FO Rw wv f c J Bs n W X' FO' L' R' lv') (b : Below W.heap.size W Z) : GI w nb pB tB g X FO Rw wv f c J Bs n Z X' FO' L' R' lv' :=
 ⟨h.1.later b, h.2.1.keptC (KpC.of_below b), hK _ _ _ h.2.2.1 (KpC.of_below b), hD.keep _ _ h.2.2.2.1 (KpC.of_below b), h.2.2.2.2⟩
theorem GI.full {x : EntD} {s : Nat} {F2 : Nat → Prop} (hD : Doer pB tB g f fn lb c C J) (hK : BsK w nb Bs) (hG : Gm w pB tB g X FO L R lv f) (h : GI w nb pB tB g X FO Rw wv f c J Bs n W X' FO' L' R' lv') (hw : w.heap.size ≤ nb) (hz : nb ≤ W.heap.size) (hC : ∀ k, C k → k < w.heap.size ∧ ¬ FO k)
  (hf : FuB Z g F2) (hb : Fb W Z (fun k => FO' k ∨ x.blk k)) (hx : ∀ k, x.blk k → s ≤ k) (hs : nb ≤ s ∧ ∀ k, X' k → k < s) (hF : ∀ k, F2 k → FO' k ∨ x.blk k ∨ W.heap.size ≤ k) :
  ∃ FO2, GI w nb pB tB g X FO Rw wv f c J Bs n Z X' FO2 L' R' lv' ∧ (∀ k, FO2 k → FO' k ∨ x.blk k ∨ W.heap.size ≤ k) := by
 obtain ⟨FO2, h1, h2⟩ := h.1.full (Y := fun k => x.blk k) (by omega) hz hf hb (fun k hk => ⟨Nat.le_trans hs.1 (hx k hk), fun q => by have := hs.2 k q; have := hx k hk; omega⟩) hF ⟨hG.pl.plt, hG.pl.tlt⟩
 have old : ∀ k, k < nb → (w.heap.size ≤ k ∨ ¬ FO k) → ¬ (FO' k ∨ x.blk k) := fun k hk ho q => by
  rcases q with q | q
  ·rcases h.1.nf k q with q | q
   ·rcases ho with ho | ho
    ·have := (hG.fc k q).lt; omega
    ·exact ho q
   ·omega
  ·have := hx k q; omega
 exact ⟨FO2, ⟨h1, h.2.1.keptC (KpC.of_fb hb (fun k hk => old k (by have := hG.pl.lt k hk; omega) (.inr (fun q => hG.ap k (.inr (.inr hk)) q)))), hK _ _ _ h.2.2.1 (KpC.of_fb hb (fun k hk => old k hk.2 (.inl hk.1))), hD.keep _ _ h.2.2.2.1 (KpC.of_fb hb (fun k hk => old k (by have := hC k hk; omega) (.inr (hC k hk).2))), h.2.2.2.2⟩, h2⟩
theorem GI.did {e : Ending} (hD : Doer pB tB g f fn lb c C J) (hK : BsK w nb Bs) (hG : Gm w pB tB g X FO L R lv f) (h : GI w nb pB tB g X FO Rw wv f c J Bs n W X' FO' L' R' lv') (hw : w.heap.size ≤ nb) (hz : nb ≤ W.heap.size) (hC : ∀ k, C k → k < w.heap.size ∧ ¬ PlB pB tB X k ∧ ¬ FO k)
  (hp : PlP W pB tB g X' FO' (c (n + 1)) f e Z) : ∃ X2 FO2 L2 R2 lv2, (RC w Z nb pB tB g X FO X2 FO2 L2 R2 lv2 f ∧ RdX X Z wv Rw ∧ Bs n Z ∧ J Z ∧ L2.length ≤ c (n + 1)) ∧ Fb W Z (fun k => k = pB ∨ k = tB ∨ FO' k) := by
 obtain ⟨-, X2, FO2, L2, R2, lv2, gm, go, hl⟩ := hp
 have old : ∀ k, k < nb → (w.heap.size ≤ k ∨ ¬ (k = pB ∨ k = tB ∨ FO k)) → ¬ (k = pB ∨ k = tB ∨ FO' k) := fun k hk ho q => by
  have h1 := hG.pl.plt
  have h2 := hG.pl.tlt
  rcases q with q | q | q
  ·rcases ho with ho | ho
   ·omega
   ·exact ho (.inl q)
  ·rcases ho with ho | ho
   ·omega
   ·exact ho (.inr (.inl q))
  ·rcases h.1.nf k q with q | q
   ·rcases ho with ho | ho
    ·have := (hG.fc k q).lt; omega
    ·exact ho (.inr (.inr q))
   ·omega
 refine ⟨X2, FO2, L2, R2, lv2, ⟨h.1.step (by omega) hz gm go, h.2.1.keptC (KpC.of_fb go.fb (fun k hk => old k (by have := hG.pl.lt k hk; omega) (.inr (fun q => ?_)))), hK _ _ _ h.2.2.1 (KpC.of_fb go.fb (fun k hk => old k hk.2 (.inl hk.1))), hD.keep _ _ h.2.2.2.1 (KpC.of_fb go.fb (fun k hk => old k (by have := hC k hk; omega) (.inr (fun q => ?_)))), hl⟩, go.fb⟩
 ·rcases q with q | q | q
  ·exact hG.pl.np (q ▸ hk)
  ·exact hG.pl.tab.not (q ▸ hk)
  ·exact hG.ap k (.inr (.inr hk)) q
 ·have h3 := hC k hk
  rcases q with q | q | q
  ·exact h3.2.1 (.inl q)
  ·exact h3.2.1 (.inr (.inl q))
  ·exact h3.2.2 q
def GE (w : World) (nb pB tB g : Nat) (X FO : Nat → Prop) (R : List EntD) (lv : Value) (f : Bool) (c : Nat → Nat) (J : World → Prop) (Bs : Nat → World → Prop) (n : Nat) (W : World) : Prop := ∃ (X' FO' : Nat → Prop) (L' R' : List EntD) (lv' : Value), GI w nb pB tB g X FO R lv f c J Bs n W X' FO' L' R' lv'
theorem GE.turn {B : Nat} (h : GE w nb pB tB g X FO Rw wv f c J Bs n W) (hD : Doer pB tB g f fn lb c C J) (hK : BsK w nb Bs) (hB : w.heap.size ≤ B) (t : Turn B W Z) : GE w nb pB tB g X FO Rw wv f c J Bs n Z := by
 obtain ⟨X', FO', L', R', lv', k⟩ := h
 exact ⟨X', FO', L', R', lv', k.turn hD hK hB t⟩
theorem GI.round {X0 Y Y2 Y3 : World} {s B B2 bk : Nat} {FO2 X3 FO3 : Nat → Prop} {L3 R3 : List EntD} {lv3 : Value} {x : EntD}
  (hD : Doer pB tB g f fn lb c C J) (hG : Gm w pB tB g X FO L R lv f) (hal : GI w nb pB tB g X FO Rw wv f c J Bs n X0 X' FO' L' R' lv') (hbY : Below X0.heap.size X0 Y) (f2 : Fb Y Y2 (fun k => FO' k ∨ x.blk k)) (hf2 : ∀ k, FO2 k → FO' k ∨ x.blk k ∨ Y.heap.size ≤ k)
  (f3 : Fb Y2 Y3 (fun k => k = pB ∨ k = tB ∨ FO2 k)) (r3 : RC w Y3 nb pB tB g X FO X3 FO3 L3 R3 lv3 f ∧ RdX X Y3 wv Rw ∧ Bs n Y3 ∧ J Y3 ∧ L3.length ≤ c (n + 1)) (ho : O3 X0 s x) (hs : nb ≤ s) (hbk : w.heap.size ≤ bk ∧ bk < B) (hkc : CellsAt X0 bk) (hset : ∀ W, Bs n W → Bs (n + 1) (W.setCell ⟨bk, 0, none⟩ (.int .i64 ((n + 1 : Nat) : Int)))) (hnb : nb = B + 4) (hn : n + 1 ≤ Rw.length) (hC : ∀ k, C k → k < w.heap.size) :
  KeepsFrom B2 X0 (Y3.setCell ⟨bk, 0, none⟩ (.int .i64 ((n + 1 : Nat) : Int))) ∧ KpO X B X0 (Y3.setCell ⟨bk, 0, none⟩ (.int .i64 ((n + 1 : Nat) : Int))) ∧ GE w nb pB tB g X FO Rw wv f c J Bs (n + 1) (Y3.setCell ⟨bk, 0, none⟩ (.int .i64 ((n + 1 : Nat) : Int))) := by
 obtain ⟨rc3, rd3, al3, j3, l3⟩ := r3
 have hxb : ∀ k, x.blk k → s ≤ k ∧ k < X0.heap.size := fun k hk => ho.lt k hk
 have fs : Fb Y3 (Y3.setCell ⟨bk, 0, none⟩ (.int .i64 ((n + 1 : Nat) : Int))) (fun k => k = bk) := Fb.set1 (O := fun k => k = bk) rfl _
 have ft : Fb X0 (Y3.setCell ⟨bk, 0, none⟩ (.int .i64 ((n + 1 : Nat) : Int))) (fun k => k = pB ∨ k = tB ∨ FO' k ∨ x.blk k ∨ k = bk) := by
  have t1 : Fb X0 Y2 (fun k => FO' k ∨ x.blk k) := (Fb.of_below hbY).trans' f2 hbY.size (fun i _ q => q)
  have t2 : Fb X0 Y3 (fun k => k = pB ∨ k = tB ∨ FO' k ∨ x.blk k) := (t1.mono (fun i _ q => .inr (.inr q))).trans' f3 t1.size (fun i hi q => by
   rcases q with q | q | q
   ·exact .inl q
   ·exact .inr (.inl q)
   ·rcases hf2 i q with q | q | q
    ·exact .inr (.inr (.inl q))
    ·exact .inr (.inr (.inr q))
    ·have := hbY.size; omega)
  refine (t2.mono (fun i _ q => ?_)).trans' fs t2.size (fun i _ q => .inr (.inr (.inr (.inr q))))
  rcases q with q | q | q | q
  ·exact .inl q
  ·exact .inr (.inl q)
  ·exact .inr (.inr (.inl q))
  ·exact .inr (.inr (.inr (.inl q)))
 have hplt := hG.pl.plt
 have htlt := hG.pl.tlt
 have hcells : ∀ k, (k = pB ∨ k = tB ∨ FO' k ∨ x.blk k ∨ k = bk) → k < X0.heap.size → CellsAt X0 k := fun k hk _ => by
  rcases hk with rfl | rfl | q | q | rfl
  ·exact ⟨_, hal.1.gm.pl.box, rfl⟩
  ·obtain ⟨p, T, h1, _⟩ := hal.1.gm.pl.tab.tree
   exact ⟨_, h1, rfl⟩
  ·exact hal.1.gm.fc k q
  ·exact ho.cellsAt q
  ·exact hkc
 have hout : ∀ k, (k = pB ∨ k = tB ∨ FO' k ∨ x.blk k ∨ k = bk) → ¬ X k ∧ ¬ (B ≤ k ∧ k < B + 4) := fun k hk => by
  rcases hk with rfl | rfl | q | q | rfl
  ·exact ⟨hG.pl.np, by omega⟩
  ·exact ⟨hG.pl.tab.not, by omega⟩
  ·rcases hal.1.nf k q with q | q
   ·exact ⟨fun z => hG.ap k (.inr (.inr z)) q, by have := (hG.fc k q).lt; omega⟩
   ·exact ⟨fun z => by have := hG.pl.lt k z; omega, by omega⟩
  ·have := hxb k q
   exact ⟨fun z => by have := hG.pl.lt k z; omega, by omega⟩
  ·exact ⟨fun z => by have := hG.pl.lt _ z; omega, by omega⟩
 refine ⟨keeps_of ft hcells, kpo_of ft hcells hout, X3, FO3, L3, R3, lv3, ⟨rc3.gm.keptC (H := fun k => k ≠ bk) (KpC.of_fb fs (fun k hk q => hk q)) (fun k hk q => ?_) (fun k hk q => ?_), rc3.fb.trans' fs rc3.fb.size (fun i hi q => ?_), rc3.nx, rc3.nf⟩, rd3.keptC (KpC.of_fb fs (fun k hk q => ?_)), hset _ al3, hD.keep _ _ j3 (KpC.of_fb fs (fun k hk q => ?_)), l3, hn⟩
 ·rcases hk with q1 | q1 | q1
  ·omega
  ·omega
  ·rcases rc3.nx k q1 with q2 | q2
   ·have := hG.pl.lt k q2; omega
   ·omega
 ·rcases rc3.nf k hk with q2 | q2
  ·have := (hG.fc k q2).lt; omega
  ·omega
 ·have q' : i = bk := q
  omega
 ·have q' : k = bk := q
  have := hG.pl.lt k hk; omega
 ·have q' : k = bk := q
  have := hC k hk; omega
theorem Laid.keptC8 {w w' : World} {B : Nat} {u : Value} {bs : List Nat} {H : Nat → Prop} (h : Laid w B u bs) (k : KpC H w w') (hH : ∀ g, u.ownBlock = some g → H g) : Laid w' B u bs := by
 obtain ⟨g, c, rfl, h2, h3, o⟩ := h
 refine ⟨g, c, rfl, h2, h3, own_same o (fun i hi => ?_)⟩
 obtain ⟨_, cur, hg⟩ := own_at o.2 hi
 exact k.same ⟨_, hg, rfl⟩ (hH i hi)
theorem LaidE.keptC8 {w w' : World} {B : Nat} {D : EntD} {H : Nat → Prop} (h : LaidE w B D) (k : KpC H w w') (hH : ∀ g, D.blk g → H g) : LaidE w' B D := ⟨h.1.keptC8 k (fun g hg => hH g (.inl hg)), h.2.1.keptC8 k (fun g hg => hH g (.inr (.inl hg))), h.2.2.keptC8 k (fun g hg => hH g (.inr (.inr hg)))⟩
end Go.Proofs.YtpabbnddeklpdaaGreat
