import Derived.Test.YtchebhafabhabaaGreatDoorK22
namespace Go.Proofs.YtchebhafabhabaaGreatDoor
open Go.RowKit Go.Shelf
set_option linter.unusedVariables false
attribute [local go_sem] Oper.semAt_some

set_option maxRecDepth 100000 in
set_option maxHeartbeats 8000000 in
theorem lent_r51 {l' : Nat} {X : World} {b11 b16 b17 bz oz cap mz n : Nat} {x y : EntD} {s0 s1 s2 s3 s4 s6 s7 s8 s9 s10 s11 s12 s13 s14 s15 s16 s17 s18 s19 s20 s21 s22 s23 s24 s25 s28 s29 s30 s31 s32 s33 s34 s35 s36 s37 s38 s39 s40 s41 s42 s43 s44 s45 s46 s47 s48 s49 s50 s51 s52 s53 s54 s55 s56 s57 s58 s59 s60 s61 s62 s63 s64 s65 s66 s67 s68 s69 s70 s71 s72 s73 s74 s75 s76 s77 s78 s79 s80 s81 s82 s83 s84 s85 s86 s87 s88 s89 s90 s91 s92 s93 s94 s95 s96 s97 s98 s99 s100 s101 s102 s103 s104 s105 s106 s107 s108 s109 s110 s111 s112 s113 s114 s115 s116 s117 s118 s119 s120 s121 s122 s123 s124 s125 s126 s127 s128 s129 s130 s131 s132 s133 s134 s135 s136 s137 s138 s139 s140 s141 s142 s143 s144 s145 s146 s147 s148 s149 s150 s151 s152 s153 s154 s155 s156 s157 s158 s159 s160 s161 s162 s163 s164 s165 s166 s167 s168 s169 s170 s171 s172 s173 s174 s175 s176 s177 s178 s179 s180 s181 s182 s183 s184 s185 s186 s187 s188 s189 s190 s191 s192 s193 s194 s195 s196 s197 s198 s199 s200 s201 s202 s203 s204 s205 s206 s207 s208 s209 s210 s211 s212 s213 s214 s215 s216 s217 s218 s219 s220 s221 s222 s223 s224 s225 s226 s227 s228 s229 s230 s231 s232 s233 s234 s235 s236 s237 s238 s239 s240 s241 s242 s243 s244 s245 s246 s247 s248 s249 s250 s251 : Value} (hn : n < mz) (KS : ∀ wx, Below X.heap.size X wx → wx.cell? ⟨b16, 0, none⟩ = some (.int .i64 (n : Int)) ∧ wx.cell? ⟨b11, 0, none⟩ = some (.slice (some ⟨bz, oz, none⟩) mz cap) ∧ wx.cell? ⟨b17, 0, none⟩ = some x.vr ∧ wx.cell? ⟨b17, 1, none⟩ = some (.int .i64 x.fam) ∧ wx.cell? ⟨b17, 2, none⟩ = some x.vq ∧ wx.cell? ⟨b17, 3, none⟩ = some (.int .i64 x.ts) ∧ wx.cell? ⟨b17, 4, none⟩ = some (.int .i64 x.seq) ∧ wx.cell? ⟨b17, 5, none⟩ = some (.int .i64 x.kind) ∧ wx.cell? ⟨b17, 6, none⟩ = some x.vv ∧ wx.cell? ⟨bz, oz + n * 7, none⟩ = some y.vr ∧ wx.cell? ⟨bz, oz + n * 7 + 1, none⟩ = some (.int .i64 y.fam) ∧ wx.cell? ⟨bz, oz + n * 7 + 2, none⟩ = some y.vq ∧ wx.cell? ⟨bz, oz + n * 7 + 3, none⟩ = some (.int .i64 y.ts) ∧ wx.cell? ⟨bz, oz + n * 7 + 4, none⟩ = some (.int .i64 y.seq) ∧ wx.cell? ⟨bz, oz + n * 7 + 5, none⟩ = some (.int .i64 y.kind) ∧ wx.cell? ⟨bz, oz + n * 7 + 6, none⟩ = some y.vv) (hSe : ∀ Z, Below X.heap.size X Z → Calls Tryz.prog 33 #[.agg #[x.vr, .int .i64 x.fam, x.vq, .int .i64 x.ts, .int .i64 x.seq, .int .i64 x.kind, x.vv], .agg #[y.vr, .int .i64 y.fam, y.vq, .int .i64 y.ts, .int .i64 y.seq, .int .i64 y.kind, y.vv]] Z fun r w' => r = .returned (.bool true) ∧ Below Z.heap.size Z w') :
  (fstC (fstC (inC (inC (inC (nthC 8 (inC (fstC (nthC 1 (inC (inC (nthC 1 (inC (fstC (nthC 1 (inC (inC (nthC 1 (fstC (nthC 10 ((Tryz.f6).body.getD .skip))))))))))))))))))))).wpIn (Fence.wide.inRound l') 9 Tryz.prog (fun e a' w' => match e with | .normal => a' = { tmps := #[s0, s1, s2, s3, s4, .pointer (some ⟨b11, 0, none⟩), s6, s7, s8, s9, s10, s11, s12, s13, s14, s15, s16, s17, s18, s19, s20, s21, s22, s23, s24, s25, .pointer (some ⟨b16, 0, none⟩), .pointer (some ⟨b17, 0, none⟩), s28, s29, s30, s31, s32, s33, s34, s35, s36, s37, s38, s39, s40, s41, s42, s43, s44, s45, s46, s47, s48, s49, s50, s51, s52, s53, s54, s55, s56, s57, s58, s59, s60, s61, s62, s63, s64, s65, s66, s67, s68, s69, s70, s71, s72, s73, s74, s75, s76, s77, s78, s79, s80, s81, s82, s83, s84, s85, s86, s87, s88, s89, s90, s91, s92, s93, s94, s95, s96, s97, s98, s99, s100, s101, s102, s103, s104, s105, s106, s107, s108, s109, s110, s111, s112, s113, s114, s115, s116, s117, s118, s119, s120, s121, s122, s123, s124, s125, s126, s127, s128, s129, s130, s131, s132, s133, s134, s135, s136, s137, s138, s139, s140, s141, s142, s143, s144, s145, s146, s147, s148, s149, s150, s151, s152, s153, s154, s155, s156, s157, s158, s159, s160, s161, s162, s163, s164, s165, s166, s167, s168, s169, s170, s171, s172, s173, s174, s175, s176, s177, s178, s179, s180, s181, s182, s183, s184, s185, s186, s187, s188, s189, s190, s191, .int .i64 (n : Int), .slice (some ⟨bz, oz, none⟩) mz cap, .int .i64 (mz : Int), .bool false, .bool false, .agg #[x.vr, .int .i64 x.fam, x.vq, .int .i64 x.ts, .int .i64 x.seq, .int .i64 x.kind, x.vv], .slice (some ⟨bz, oz, none⟩) mz cap, .int .i64 (n : Int), .pointer (some ⟨bz, oz + n * 7, none⟩), .agg #[y.vr, .int .i64 y.fam, y.vq, .int .i64 y.ts, .int .i64 y.seq, .int .i64 y.kind, y.vv], .bool true, .bool false, .bool false, s205, s206, s207, s208, s209, s210, s211, s212, s213, s214, s215, s216, s217, s218, s219, s220, s221, s222, s223, s224, s225, s226, s227, s228, s229, s230, s231, s232, s233, s234, s235, s236, s237, s238, s239, s240, s241, s242, s243, s244, s245, s246, s247, s248, s249, s250, s251], defers := [] } ∧ Below X.heap.size X w' | _ => False) { tmps := #[s0, s1, s2, s3, s4, .pointer (some ⟨b11, 0, none⟩), s6, s7, s8, s9, s10, s11, s12, s13, s14, s15, s16, s17, s18, s19, s20, s21, s22, s23, s24, s25, .pointer (some ⟨b16, 0, none⟩), .pointer (some ⟨b17, 0, none⟩), s28, s29, s30, s31, s32, s33, s34, s35, s36, s37, s38, s39, s40, s41, s42, s43, s44, s45, s46, s47, s48, s49, s50, s51, s52, s53, s54, s55, s56, s57, s58, s59, s60, s61, s62, s63, s64, s65, s66, s67, s68, s69, s70, s71, s72, s73, s74, s75, s76, s77, s78, s79, s80, s81, s82, s83, s84, s85, s86, s87, s88, s89, s90, s91, s92, s93, s94, s95, s96, s97, s98, s99, s100, s101, s102, s103, s104, s105, s106, s107, s108, s109, s110, s111, s112, s113, s114, s115, s116, s117, s118, s119, s120, s121, s122, s123, s124, s125, s126, s127, s128, s129, s130, s131, s132, s133, s134, s135, s136, s137, s138, s139, s140, s141, s142, s143, s144, s145, s146, s147, s148, s149, s150, s151, s152, s153, s154, s155, s156, s157, s158, s159, s160, s161, s162, s163, s164, s165, s166, s167, s168, s169, s170, s171, s172, s173, s174, s175, s176, s177, s178, s179, s180, s181, s182, s183, s184, s185, s186, s187, s188, s189, s190, s191, s192, s193, s194, s195, s196, s197, s198, s199, s200, s201, s202, s203, s204, s205, s206, s207, s208, s209, s210, s211, s212, s213, s214, s215, s216, s217, s218, s219, s220, s221, s222, s223, s224, s225, s226, s227, s228, s229, s230, s231, s232, s233, s234, s235, s236, s237, s238, s239, s240, s241, s242, s243, s244, s245, s246, s247, s248, s249, s250, s251], defers := [] } X := by
 have hn1 : (n : Int) < (mz : Int) := by omega
 have hn0 : (0 : Int) ≤ (n : Int) := by omega
 have d1 : decide ((mz : Int) ≤ (n : Int)) = false := by simp; omega
 have d2 : decide (mz ≤ n) = false := by simp; omega
 have hmz0 : (0 : Int) < (mz : Int) := by omega
 have D0 : Below X.heap.size X X.drew := (Below.refl _ _).drew
 have HKS := Lib.hid KS
 have HSe := Lib.hid hSe
 clear KS hSe
 show Code.wpIn _ _ _ (Code.region 51 _ true) _ _ _
 refine wpIn_region_any (by kernel_rfl) (anyIn (by kernel_rfl) (fun ⟨_, _, h⟩ => h) _ _ _ _ (wpAny_of_held (S := fun wx => wx.cell? ⟨b16, 0, none⟩ = some (.int .i64 (n : Int)) ∧ wx.cell? ⟨b11, 0, none⟩ = some (.slice (some ⟨bz, oz, none⟩) mz cap) ∧ wx.cell? ⟨b17, 0, none⟩ = some x.vr ∧ wx.cell? ⟨b17, 1, none⟩ = some (.int .i64 x.fam) ∧ wx.cell? ⟨b17, 2, none⟩ = some x.vq ∧ wx.cell? ⟨b17, 3, none⟩ = some (.int .i64 x.ts) ∧ wx.cell? ⟨b17, 4, none⟩ = some (.int .i64 x.seq) ∧ wx.cell? ⟨b17, 5, none⟩ = some (.int .i64 x.kind) ∧ wx.cell? ⟨b17, 6, none⟩ = some x.vv ∧ wx.cell? ⟨bz, oz + n * 7, none⟩ = some y.vr ∧ wx.cell? ⟨bz, oz + n * 7 + 1, none⟩ = some (.int .i64 y.fam) ∧ wx.cell? ⟨bz, oz + n * 7 + 2, none⟩ = some y.vq ∧ wx.cell? ⟨bz, oz + n * 7 + 3, none⟩ = some (.int .i64 y.ts) ∧ wx.cell? ⟨bz, oz + n * 7 + 4, none⟩ = some (.int .i64 y.seq) ∧ wx.cell? ⟨bz, oz + n * 7 + 5, none⟩ = some (.int .i64 y.kind) ∧ wx.cell? ⟨bz, oz + n * 7 + 6, none⟩ = some y.vv) _ _ _ _ ?_))
 change wpAnyH _ _ _ _ _ _ _ _ (World.drew _)
 have hHeld := HKS.out _ D0
 refine wpAnyH_take (i := 0) (oi := { dst := some 192, op := _, type := _, pos := _, after := _, guard := _ }) (v := .int .i64 (n : Int)) rfl (by kernel_rfl) (by kernel_rfl) (by kernel_rfl) (fun _ _ _ h => h) (Or.inl ⟨by kernel_rfl, fun wy hy => by (obtain ⟨y0, y1, y2, y3, y4, y5, y6, y7, y8, y9, y10, y11, y12, y13, y14, y15⟩ := hy; go_simp; first | done | omega)⟩) hHeld ?_
 try simp only [Act.put, List.setIfInBounds_toArray, List.set_cons_zero, List.set_cons_succ]
 refine wpAnyH_take (i := 1) (oi := { dst := some 193, op := _, type := _, pos := _, after := _, guard := _ }) (v := .slice (some ⟨bz, oz, none⟩) mz cap) rfl (by kernel_rfl) (by kernel_rfl) (by kernel_rfl) (fun _ _ _ h => h) (Or.inl ⟨by kernel_rfl, fun wy hy => by (obtain ⟨y0, y1, y2, y3, y4, y5, y6, y7, y8, y9, y10, y11, y12, y13, y14, y15⟩ := hy; go_simp; first | done | omega)⟩) hHeld ?_
 try simp only [Act.put, List.setIfInBounds_toArray, List.set_cons_zero, List.set_cons_succ]
 refine wpAnyH_take (i := 2) (oi := { dst := some 194, op := _, type := _, pos := _, after := _, guard := _ }) (v := .int .i64 (mz : Int)) rfl (by kernel_rfl) (by kernel_rfl) (by kernel_rfl) (fun _ _ _ h => h) (Or.inl ⟨by kernel_rfl, fun wy hy => by (obtain ⟨y0, y1, y2, y3, y4, y5, y6, y7, y8, y9, y10, y11, y12, y13, y14, y15⟩ := hy; go_simp; first | done | omega)⟩) hHeld ?_
 try simp only [Act.put, List.setIfInBounds_toArray, List.set_cons_zero, List.set_cons_succ]
 refine wpAnyH_take (i := 3) (oi := { dst := some 195, op := _, type := _, pos := _, after := _, guard := _ }) (v := .bool false) rfl (by kernel_rfl) (by kernel_rfl) (by kernel_rfl) (fun _ _ _ h => h) (Or.inl ⟨by kernel_rfl, fun wy hy => by (obtain ⟨y0, y1, y2, y3, y4, y5, y6, y7, y8, y9, y10, y11, y12, y13, y14, y15⟩ := hy; go_simp; first | done | omega)⟩) hHeld ?_
 try simp only [Act.put, List.setIfInBounds_toArray, List.set_cons_zero, List.set_cons_succ]
 refine wpAnyH_take (i := 4) (oi := { dst := some 196, op := _, type := _, pos := _, after := _, guard := _ }) (v := .bool false) rfl (by kernel_rfl) (by kernel_rfl) (by kernel_rfl) (fun _ _ _ h => h) (Or.inl ⟨by kernel_rfl, fun wy hy => by (obtain ⟨y0, y1, y2, y3, y4, y5, y6, y7, y8, y9, y10, y11, y12, y13, y14, y15⟩ := hy; go_simp; first | done | omega)⟩) hHeld ?_
 try simp only [Act.put, List.setIfInBounds_toArray, List.set_cons_zero, List.set_cons_succ]
 refine wpAnyH_take (i := 5) (oi := { dst := some 197, op := _, type := _, pos := _, after := _, guard := _ }) (v := .agg #[x.vr, .int .i64 x.fam, x.vq, .int .i64 x.ts, .int .i64 x.seq, .int .i64 x.kind, x.vv]) rfl (by kernel_rfl) (by kernel_rfl) (by kernel_rfl) (fun _ _ _ h => h) (Or.inl ⟨by kernel_rfl, fun wy hy => by (obtain ⟨y0, y1, y2, y3, y4, y5, y6, y7, y8, y9, y10, y11, y12, y13, y14, y15⟩ := hy; go_simp; first | done | omega)⟩) hHeld ?_
 try simp only [Act.put, List.setIfInBounds_toArray, List.set_cons_zero, List.set_cons_succ]
 refine wpAnyH_take (i := 6) (oi := { dst := some 198, op := _, type := _, pos := _, after := _, guard := _ }) (v := .slice (some ⟨bz, oz, none⟩) mz cap) rfl (by kernel_rfl) (by kernel_rfl) (by kernel_rfl) (fun _ _ _ h => h) (Or.inl ⟨by kernel_rfl, fun wy hy => by (obtain ⟨y0, y1, y2, y3, y4, y5, y6, y7, y8, y9, y10, y11, y12, y13, y14, y15⟩ := hy; go_simp; first | done | omega)⟩) hHeld ?_
 try simp only [Act.put, List.setIfInBounds_toArray, List.set_cons_zero, List.set_cons_succ]
 refine wpAnyH_take (i := 7) (oi := { dst := some 199, op := _, type := _, pos := _, after := _, guard := _ }) (v := .int .i64 (n : Int)) rfl (by kernel_rfl) (by kernel_rfl) (by kernel_rfl) (fun _ _ _ h => h) (Or.inl ⟨by kernel_rfl, fun wy hy => by (obtain ⟨y0, y1, y2, y3, y4, y5, y6, y7, y8, y9, y10, y11, y12, y13, y14, y15⟩ := hy; go_simp; first | done | omega)⟩) hHeld ?_
 try simp only [Act.put, List.setIfInBounds_toArray, List.set_cons_zero, List.set_cons_succ]
 refine wpAnyH_take (i := 8) (oi := { dst := some 200, op := _, type := _, pos := _, after := _, guard := _ }) (v := .pointer (some ⟨bz, oz + n * 7, none⟩)) rfl (by kernel_rfl) (by kernel_rfl) (by kernel_rfl) (fun _ _ _ h => h) (Or.inl ⟨by kernel_rfl, fun wy hy => by (obtain ⟨y0, y1, y2, y3, y4, y5, y6, y7, y8, y9, y10, y11, y12, y13, y14, y15⟩ := hy; go_simp; first | done | omega)⟩) hHeld ?_
 try simp only [Act.put, List.setIfInBounds_toArray, List.set_cons_zero, List.set_cons_succ]
 refine wpAnyH_take (i := 9) (oi := { dst := some 201, op := _, type := _, pos := _, after := _, guard := _ }) (v := .agg #[y.vr, .int .i64 y.fam, y.vq, .int .i64 y.ts, .int .i64 y.seq, .int .i64 y.kind, y.vv]) rfl (by kernel_rfl) (by kernel_rfl) (by kernel_rfl) (fun _ _ _ h => h) (Or.inl ⟨by kernel_rfl, fun wy hy => by (obtain ⟨y0, y1, y2, y3, y4, y5, y6, y7, y8, y9, y10, y11, y12, y13, y14, y15⟩ := hy; go_simp; first | done | omega)⟩) hHeld ?_
 try simp only [Act.put, List.setIfInBounds_toArray, List.set_cons_zero, List.set_cons_succ]
 refine wpAnyH_ready (rs := [10]) (by kernel_rfl) (by simp) ?_
 refine AllReadyH.cons (o := { dst := some 202, op := _, type := _, pos := _, after := _, guard := _ }) rfl (fun KK hK => ?_) AllReadyH.nil
 go_simp
 go_at_call 33
 refine (HSe.out _ D0).mono ?_
 rintro z w1 ⟨rfl, hb1⟩
 have D1 := D0.trans (hb1.mono D0.size)
 clear hHeld
 have hHeld := HKS.out _ D1
 try simp only []
 refine hK.out _ _ hHeld (fun _ => ?_)
 clear hK
 try simp only [Act.put, List.setIfInBounds_toArray, List.set_cons_zero, List.set_cons_succ]
 refine wpAnyH_take (i := 11) (oi := { dst := some 203, op := _, type := _, pos := _, after := _, guard := _ }) (v := .bool false) rfl (by kernel_rfl) (by kernel_rfl) (by kernel_rfl) (fun _ _ _ h => h) (Or.inl ⟨by kernel_rfl, fun wy hy => by (obtain ⟨y0, y1, y2, y3, y4, y5, y6, y7, y8, y9, y10, y11, y12, y13, y14, y15⟩ := hy; go_simp; first | done | omega)⟩) hHeld ?_
 try simp only [Act.put, List.setIfInBounds_toArray, List.set_cons_zero, List.set_cons_succ]
 refine wpAnyH_take (i := 12) (oi := { dst := some 204, op := _, type := _, pos := _, after := _, guard := _ }) (v := .bool false) rfl (by kernel_rfl) (by kernel_rfl) (by kernel_rfl) (fun _ _ _ h => h) (Or.inl ⟨by kernel_rfl, fun wy hy => by (obtain ⟨y0, y1, y2, y3, y4, y5, y6, y7, y8, y9, y10, y11, y12, y13, y14, y15⟩ := hy; go_simp; first | done | omega)⟩) hHeld ?_
 try simp only [Act.put, List.setIfInBounds_toArray, List.set_cons_zero, List.set_cons_succ]
 refine wpAnyH_done (by kernel_rfl) ?_ _
 exact ⟨rfl, D1⟩

theorem lj_round {V X Y Y2 : World} {gF gi n m0 : Nat} {FO F : Nat → Prop} {x : EntD} {pre : List EntD} (h : LJ V X gF gi FO n (m0 + 3 * min n 12) F) (hXs : V.heap.size + 2 ≤ X.heap.size) (hbY : Below X.heap.size X Y) (fu2 : BkB Y2 gF (m0 + 3 * min n 12 + 3) (fun k => F k ∨ x.blk k ∨ (Y.heap.size ≤ k ∧ k < Y2.heap.size))) (f2 : Fb Y Y2 (fun k => F k ∨ x.blk k)) (hx : ∀ k, x.blk k → V.heap.size + 2 ≤ k) (hgi : gi < V.heap.size) (hF : ¬ FO gi) (hn : n = pre.length) (h12 : n < 12) :
  RdF (fun (st : List EntD × (Nat → Prop)) X => LJ V X gF gi FO st.1.length (m0 + 3 * min st.1.length 12) st.2) (fun st k => st.2 k ∨ k = gi) xbE (fun k => F k ∨ k = gi) pre x X (Y2.setCell ⟨gi, 0, none⟩ (.int .i64 ((n : Int) + 1))) := by
 have hs := hbY.size
 have h3 := ((h.later hbY).grow (by omega) fu2 f2 hx hgi hF).seti (n' := n + 1) hgi hF
 refine ⟨fun k => F k ∨ x.blk k ∨ (Y.heap.size ≤ k ∧ k < Y2.heap.size), ?_, ?_, ?_⟩
 ·show LJ V _ gF gi FO (pre ++ [x]).length _ _
  rw [List.length_append, ← hn, show m0 + 3 * min (n + [x].length) 12 = m0 + 3 * min n 12 + 3 by simp; omega]
  exact h3
 ·refine ((Fb.of_below hbY).trans (f2.mono ?_)).trans (Fb.set1 (.inl (.inr rfl)) _)
  rintro k _ (h | h)
  ·exact .inl (.inl h)
  ·exact .inr h
 ·rintro k ((h | h | h) | h)
  ·exact .inl (.inl h)
  ·exact .inr (.inl h)
  ·exact .inr (.inr (by omega))
  ·exact .inl (.inr h)
theorem lj_skip {V X Y : World} {gF gi n m0 : Nat} {FO F : Nat → Prop} {x : EntD} {pre : List EntD} (h : LJ V X gF gi FO n (m0 + 3 * min n 12) F) (hbY : Below X.heap.size X Y) (hgi : gi < V.heap.size) (hF : ¬ FO gi) (hn : n = pre.length) (h12 : ¬ n < 12) :
  RdF (fun (st : List EntD × (Nat → Prop)) X => LJ V X gF gi FO st.1.length (m0 + 3 * min st.1.length 12) st.2) (fun st k => st.2 k ∨ k = gi) xbE (fun k => F k ∨ k = gi) pre x X (Y.setCell ⟨gi, 0, none⟩ (.int .i64 ((n : Int) + 1))) := by
 have h3 := (h.later hbY).seti (n' := n + 1) hgi hF
 refine ⟨F, ?_, ?_, ?_⟩
 ·show LJ V _ gF gi FO (pre ++ [x]).length _ _
  rw [List.length_append, ← hn, show m0 + 3 * min (n + [x].length) 12 = m0 + 3 * min n 12 by simp; omega]
  exact h3
 ·exact (Fb.of_below hbY).trans (Fb.set1 (.inl (.inr rfl)) _)
 ·rintro k (h | h)
  ·exact .inl (.inl h)
  ·exact .inl (.inr h)
set_option maxRecDepth 100000 in
set_option maxHeartbeats 8000000 in
theorem lent_tail {U V X : World} {b4 b5 b8 gk gb cb gx cx i q x r b ne ce np cp m c na ca n : Nat} {a aa : Option Addr} {zs : List EntD} {s : Bs} {ve vp vl v17 : Value} {KO : Nat → Prop} {ds : List Deferred} {Q : Exit → Act → World → Prop} {s1 s2 s3 s7 s11 s12 s13 s14 s15 s16 s19 s20 s21 s22 s23 s24 s25 s26 s27 s28 s29 s30 s31 s32 s33 s34 s35 s36 s37 s38 s39 s40 s41 s42 s43 s44 s45 s46 s47 s48 s49 s50 s51 s52 s53 s54 s55 s56 s57 s58 s59 s60 s61 s62 s63 s64 s65 s66 s67 s68 s69 s70 s71 s72 s73 s74 s75 s76 s77 s78 s79 s80 s81 s82 s83 s84 s85 s86 s87 s88 s89 s90 s91 s92 s93 s94 s95 s96 s97 s98 s99 s100 s101 s102 s103 s104 s105 s106 s107 s108 s109 s110 s111 s112 s113 s114 s115 s116 s117 s118 s119 s120 s121 s122 s123 s124 s125 s126 s127 s128 s129 s130 s131 s132 s133 s134 s135 s136 s137 s138 s139 s140 s141 s142 s143 s144 s145 s146 s147 s148 s149 s150 s151 s152 s153 s154 s155 s156 s157 s158 s159 s160 s161 s162 s163 s164 s165 s166 s167 s168 s169 s170 s171 s172 s173 s174 s175 s176 s177 s178 s179 s180 s181 s182 s183 s184 s185 s186 s187 s188 s189 s190 s191 s192 s193 s194 s195 s196 s197 s198 s199 s200 s201 s202 s203 s204 s205 s206 s207 s208 s209 s210 s211 s212 s213 s214 s215 s216 s217 s218 s219 s220 s221 s222 s223 s224 s225 s226 s227 s228 s229 s230 s231 s232 s233 s234 s235 s236 s237 s238 s239 s240 s241 s242 s243 s244 s245 s246 s247 s248 s249 s250 s251 : Value}
  (hU : LU U b4 b5 r m c na ca a aa zs s) (hg : gk = U.heap.size) (bV : Below U.heap.size U V) (hV : LV V b8 gk gb cb gx cx i q x r b ne ce np cp zs s ve vp vl) (hi : LI V X gk n KO) (hn : n ≤ 800) (hi2 : i < 2) (hgV : gk < V.heap.size)
  (hQ : ∀ (A : Array Value) (D : Nat) (Z : World) (KO' : Nat → Prop), A.size = 252 → A[0]? = some (.int .i64 (r : Int)) → A[4]? = some (.pointer (some ⟨b4, 0, none⟩)) → A[5]? = some (.pointer (some ⟨b5, 0, none⟩)) → A[6]? = some (.slice aa na ca) → A[8]? = some (.pointer (some ⟨b8, 0, none⟩)) → A[9]? = some (.slice (some ⟨gb, 0, none⟩) 2 cb) → A[10]? = some (.slice (some ⟨gx, 0, none⟩) 2 cx) → A[17]? = some v17 → A[18]? = some (.int .i64 (i : Int)) → LI V Z gk (n + 3 * min m 12) KO' → Fb X Z KO → (∀ k, KO' k → KO k ∨ X.heap.size ≤ k) → X.heap.size ≤ D → Z.heap[D]? = some (.deferred (some [])) → ¬ KO' D → Q .normal { tmps := A, defers := { target := .collected D, args := #[] } :: ds } Z) :
  (nthC 6 (inC (fstC (nthC 1 (inC (inC (nthC 1 (inC (fstC (nthC 1 (inC (inC (nthC 1 (fstC (nthC 10 ((Tryz.f6).body.getD .skip)))))))))))))))).wpIn Fence.wide 9 Tryz.prog Q { tmps := #[.int .i64 (r : Int), s1, s2, s3, .pointer (some ⟨b4, 0, none⟩), .pointer (some ⟨b5, 0, none⟩), .slice aa na ca, s7, .pointer (some ⟨b8, 0, none⟩), .slice (some ⟨gb, 0, none⟩) 2 cb, .slice (some ⟨gx, 0, none⟩) 2 cx, s11, s12, s13, s14, s15, s16, v17, .int .i64 (i : Int), s19, s20, s21, s22, s23, s24, s25, s26, s27, s28, s29, s30, s31, s32, s33, s34, s35, s36, s37, s38, s39, s40, s41, s42, s43, s44, s45, s46, s47, s48, s49, s50, s51, s52, s53, s54, s55, s56, s57, s58, s59, s60, s61, s62, s63, s64, s65, s66, s67, s68, s69, s70, s71, s72, s73, s74, s75, s76, s77, s78, s79, s80, s81, s82, s83, s84, s85, s86, s87, s88, s89, s90, s91, s92, s93, s94, s95, s96, s97, s98, s99, s100, s101, s102, s103, s104, s105, s106, s107, s108, s109, s110, s111, s112, s113, s114, s115, s116, s117, s118, s119, s120, s121, s122, s123, s124, s125, s126, s127, s128, s129, s130, s131, s132, s133, s134, s135, s136, s137, s138, s139, s140, s141, s142, s143, s144, s145, s146, s147, s148, s149, s150, s151, s152, s153, s154, s155, s156, s157, s158, s159, s160, s161, s162, s163, s164, s165, s166, s167, s168, s169, s170, s171, s172, s173, s174, s175, s176, s177, s178, s179, s180, s181, s182, s183, s184, s185, s186, s187, s188, s189, s190, s191, s192, s193, s194, s195, s196, s197, s198, s199, s200, s201, s202, s203, s204, s205, s206, s207, s208, s209, s210, s211, s212, s213, s214, s215, s216, s217, s218, s219, s220, s221, s222, s223, s224, s225, s226, s227, s228, s229, s230, s231, s232, s233, s234, s235, s236, s237, s238, s239, s240, s241, s242, s243, s244, s245, s246, s247, s248, s249, s250, s251], defers := ds } X := by
 have HQ := Lib.hid hQ
 have HU := Lib.hid hU
 have HG := Lib.hid hg
 have HBV := Lib.hid bV
 have HI := Lib.hid hi
 have hmx : Tryz.prog.follows .mixedOrders = true := by kernel_rfl
 have hUX := hU.at_ hg bV hi
 have hVX := hV.fb hi.fb
 have hne0 : zs ≠ [] := fun h => hU.la.some_ (by rw [h]; rfl)
 have hmz := hU.hm
 have hm80 := hU.len
 have hVs : V.heap.size ≤ X.heap.size := hi.fb.size
 obtain ⟨bz, oz, ham⟩ : ∃ bz oz, a = some ⟨bz, oz, none⟩ := by
  rcases hU.rd.at_ with k | ⟨bz, oz, k, -⟩
  ·exact absurd k hne0
  ·exact ⟨bz, oz, k⟩
 subst ham
 have hi0 : (0 : Int) ≤ (i : Int) := by omega
 have hi1 : (i : Int) < 2 := by omega
 have hxV : x < V.heap.size := (Array.getElem?_eq_some_iff.1 hV.lk.box).1
 have hEn : s.es ≠ [] := by
  intro h
  have := hU.la.few
  rw [h] at this
  exact hU.la.some_ (List.eq_nil_of_length_eq_zero (by simpa using this))
 have hbV : b < V.heap.size := World.block_lt_of_cell? _ _ (rd_cell hV.lk.ents 0 (by rw [(rd_lens hV.lk.ents).1]; exact List.length_pos_iff.2 hEn)).1
 have hnl := hV.nl
 obtain ⟨V1, hV1, bV1, sV1, cg⟩ := new1 X (.int .i64 0) 3
 obtain ⟨V2, hV2, bV2, sV2, cc⟩ := new1 V1 (.pointer (some ⟨x, 0, none⟩)) 58
 have hs2 : V2.heap.size = X.heap.size + 2 := by omega
 have b12 : Below X.heap.size X V2 := bV1.trans (bV2.mono bV1.size)
 have cx1 : (X.alloc (.cells #[.int .i64 0] 3)).cell? ⟨gx, i, none⟩ = some (.pointer (some ⟨x, 0, none⟩)) := by
  rw [← hV1]; exact (bV1.cell (World.block_lt_of_cell? _ _ hVX.cx_)).trans hVX.cx_
 have HV2 : Hid (V2 = (X.alloc (.cells #[.int .i64 0] 3)).alloc (.cells #[.pointer (some ⟨x, 0, none⟩)] 58)) := hV1 ▸ hV2
 have hI2 := hi.later b12
 have HJ0 : Hid (LJ V2 V2 gk X.heap.size KO 0 n KO) := ⟨hI2.bk, cg.later bV2, Fb.refl _ _, fun k h => .inl h⟩
 have HLt : Hid (∀ k, KO k → k < X.heap.size) := hi.bk.lt
 have HI2 := Lib.hid hI2
 have HV := Lib.hid (hVX.later b12)
 have HUX := Lib.hid (hUX.later b12)
 have HB2 := Lib.hid b12
 have HFs : Hid (∀ Z, Fb V2 Z (fun k => KO k ∨ k = X.heap.size) → LU Z b4 b5 r m c na ca (some ⟨bz, oz, none⟩) aa zs s ∧ LV Z b8 gk gb cb gx cx i q x r b ne ce np cp zs s ve vp vl) := fun Z f => by
  have fV : Fb V Z (fun k => k = gk) := hI2.fb.trans' f hI2.fb.size (fun k hk h => by
   rcases h with h | h
   ·rcases hi.new k h with h | h
    ·exact h
    ·omega
   ·omega)
  have bZ : Below U.heap.size U Z := bV.trans (fV.belowB (fun k e => by have e' : k = gk := e; omega) bV.size)
  exact ⟨hU.later bZ, hV.fb fV⟩
 have HNew := Lib.hid hi.new
 have hz1 : X.heap.size + 1 = V1.heap.size := by omega
 rw [← hz1] at cc
 have HC := Lib.hid cc
 obtain ⟨gc, hgc⟩ : ∃ gc, gc = X.heap.size := ⟨_, rfl⟩
 have hgcV : gc < V2.heap.size := by omega
 have HGc := Lib.hid hgc
 clear hQ hU hg bV hV hi hUX hVX hI2 hV1 hV2 bV1 bV2 sV1 sV2 cg cc b12 hEn hz1
 show Code.wpIn _ _ _ (Code.seq _ _) _ _ _
 gi_wp2_with fail
 refine ⟨trivial, ?_⟩
 refine (callsIn_wide.2 (all5_any (g := x))).mono ?_
 rintro z W7 ⟨rfl, rfl⟩
 clear cx1
 gi_wp2_with fail
 rw [← HV2.out, ← hgc]
 rw [← hgc] at HC HJ0 HLt HFs
 have hKx : ¬ KO x := fun h => by
  rcases HNew.out x h with h | h
  ·exact hnl.1 h
  ·omega
 have hKb : ¬ KO b := fun h => by
  rcases HNew.out b h with h | h
  ·exact hnl.2 h
  ·omega
 have hKc : ¬ KO gc := fun h => by have := HLt.out gc h; omega
 have HL2 : Hid (∀ k, KO k → k < V2.heap.size) := fun k h => by have := HLt.out k h; omega
 clear HV2
 refine range_e (M := Nat → Prop) (q := m) (sl := 27) rfl HUX.out.la HV.out.lk HC.out (by omega) (fun st Z => LJ V2 Z gk gc KO st.1.length (n + 3 * min st.1.length 12) st.2) (fun _ _ => False) (fun st k => st.2 k ∨ k = gc) KO (fun st Z h => h.fb.size)
  (fun st Z k h ho => by
   obtain ⟨o1, o2, o3, o4⟩ := h.ob HL2.out hgcV ho
   exact ⟨o1, ⟨o4 x hKx (by omega) (by omega), o4 b hKb (by omega) (by omega)⟩, o2, o3⟩)
  (fun st Z Y C h f hc hB => h.st f hc hB) (fun _ _ _ _ h _ _ _ => h.elim) (fun _ _ _ h _ => h.elim) HJ0.out ?assign ?body ?fin
 case assign =>
  intro l' x Z K hok hK
  obtain ⟨vr, fam, vq, ts, seq, kind, vv, row, qual, val⟩ := x
  obtain ⟨ar, nr, cr, rfl⟩ := rd_slice hok.1
  obtain ⟨aq, nq, cq, rfl⟩ := rd_slice hok.2.1
  obtain ⟨av, nv, cv, rfl⟩ := rd_slice hok.2.2
  have h := hK _ ((Below.refl _ _).alloc (Nat.le_refl _) (.cells (EntD.mk (.slice ar nr cr) fam (.slice aq nq cq) ts seq kind (.slice av nv cv) row qual val).cells 40)) (EBox.new Z _)
  simp only [EntD.cells, List.setIfInBounds_toArray, List.set_cons_zero, List.set_cons_succ] at h ⊢
  have Hh := Lib.hid h
  clear hK hok h
  gi_wp2
  exact Hh.out
 case body =>
  as_aux_lemma =>
   have HMz := Lib.hid hmz
   clear hmz hgc hs2
   rintro l' pre F e Bx Z hr hl' hj hBx bx hyg
   simp only at hj hyg
   simp only [List.setIfInBounds_toArray, List.set_cons_zero, List.set_cons_succ]
   obtain ⟨k, hk⟩ : ∃ k, k = pre.length := ⟨_, rfl⟩
   rw [← hk] at hj
   obtain ⟨hu, hv⟩ := HFs.out Z hj.fb
   have HYg := Lib.hid hyg
   obtain ⟨⟨kv, hkv, hkx, hvx⟩, hxo, hxc⟩ := hyg.1
   rw [← hk] at hkv
   have hkl : k < zs.length := by
    have := (List.getElem?_eq_some_iff.1 hkv).1
    rwa [kvL_len] at this
   obtain ⟨y, hy⟩ : ∃ y, zs[k]? = some y := ⟨_, List.getElem?_eq_getElem hkl⟩
   have hym : y ∈ zs := List.mem_of_getElem? hy
   have hsame : EntD.Same e y := by
    have e := kvL_at hy
    rw [hkv] at e
    cases e
    exact same_key hxc (hu.ck y hym) hkx hvx
   have hnm : k < m := by rw [← HMz.out]; exact hkl
   have nc := hj.i_.cell
   have wc := hu.c5.cell
   have hcs : ∀ (j : Nat) u, y.cells.toList[j]? = some u → Z.cell? ⟨bz, oz + k * 7 + j, none⟩ = some u := by
    rcases hu.rd.at_ with k' | ⟨b', o', e', hc'⟩
    ·exact absurd k' hne0
    ·cases e'
     exact hc' k y hy
   have hyo : EntD.Ok Z y := hu.rd.ok y hym
   have HSe : Hid (∀ Z', Below Z.heap.size Z Z' → Calls Tryz.prog 33 #[.agg #[e.vr, .int .i64 e.fam, e.vq, .int .i64 e.ts, .int .i64 e.seq, .int .i64 e.kind, e.vv], .agg #[y.vr, .int .i64 y.fam, y.vq, .int .i64 y.ts, .int .i64 y.seq, .int .i64 y.kind, y.vv]] Z' fun r w' => r = .returned (.bool true) ∧ Below Z'.heap.size Z' w') := fun Z' b => by
    refine (se_any (hxo.later b) (hyo.later b)).mono ?_
    rintro r w' ⟨rfl, hb⟩
    rw [decide_eq_true hsame]
    exact ⟨rfl, hb⟩
   obtain ⟨c0, c1, c2', c3, c4, c5, c6⟩ := (⟨bx.vr, bx.fam, bx.vq, bx.ts, bx.seq, bx.kind, bx.vv⟩ : _ ∧ _ ∧ _ ∧ _ ∧ _ ∧ _ ∧ _)
   have e0 := hcs 0 _ rfl
   have e1 := hcs 1 _ rfl
   have e2 := hcs 2 _ rfl
   have e3 := hcs 3 _ rfl
   have e4 := hcs 4 _ rfl
   have e5 := hcs 5 _ rfl
   have e6 := hcs 6 _ rfl
   simp only [Nat.add_zero] at e0
   have KS : Hid (∀ wx, Below Z.heap.size Z wx → wx.cell? ⟨gc, 0, none⟩ = some (.int .i64 (k : Int)) ∧ wx.cell? ⟨b5, 0, none⟩ = some (.slice (some ⟨bz, oz, none⟩) m c) ∧ wx.cell? ⟨Bx, 0, none⟩ = some e.vr ∧ wx.cell? ⟨Bx, 1, none⟩ = some (.int .i64 e.fam) ∧ wx.cell? ⟨Bx, 2, none⟩ = some e.vq ∧ wx.cell? ⟨Bx, 3, none⟩ = some (.int .i64 e.ts) ∧ wx.cell? ⟨Bx, 4, none⟩ = some (.int .i64 e.seq) ∧ wx.cell? ⟨Bx, 5, none⟩ = some (.int .i64 e.kind) ∧ wx.cell? ⟨Bx, 6, none⟩ = some e.vv ∧ wx.cell? ⟨bz, oz + k * 7, none⟩ = some y.vr ∧ wx.cell? ⟨bz, oz + k * 7 + 1, none⟩ = some (.int .i64 y.fam) ∧ wx.cell? ⟨bz, oz + k * 7 + 2, none⟩ = some y.vq ∧ wx.cell? ⟨bz, oz + k * 7 + 3, none⟩ = some (.int .i64 y.ts) ∧ wx.cell? ⟨bz, oz + k * 7 + 4, none⟩ = some (.int .i64 y.seq) ∧ wx.cell? ⟨bz, oz + k * 7 + 5, none⟩ = some (.int .i64 y.kind) ∧ wx.cell? ⟨bz, oz + k * 7 + 6, none⟩ = some y.vv) := fun wx b =>
    ⟨(b.cell (World.block_lt_of_cell? _ _ nc)).trans nc, (b.cell (World.block_lt_of_cell? _ _ wc)).trans wc, (b.cell (World.block_lt_of_cell? _ _ c0)).trans c0, (b.cell (World.block_lt_of_cell? _ _ c1)).trans c1, (b.cell (World.block_lt_of_cell? _ _ c2')).trans c2', (b.cell (World.block_lt_of_cell? _ _ c3)).trans c3, (b.cell (World.block_lt_of_cell? _ _ c4)).trans c4, (b.cell (World.block_lt_of_cell? _ _ c5)).trans c5, (b.cell (World.block_lt_of_cell? _ _ c6)).trans c6, (b.cell (World.block_lt_of_cell? _ _ e0)).trans e0, (b.cell (World.block_lt_of_cell? _ _ e1)).trans e1, (b.cell (World.block_lt_of_cell? _ _ e2)).trans e2, (b.cell (World.block_lt_of_cell? _ _ e3)).trans e3, (b.cell (World.block_lt_of_cell? _ _ e4)).trans e4, (b.cell (World.block_lt_of_cell? _ _ e5)).trans e5, (b.cell (World.block_lt_of_cell? _ _ e6)).trans e6⟩
   have hK3 : K3 Z e := by
    obtain ⟨⟨h1, h2, h3⟩, Bq, k1, k2, k3, k4, k5, k6⟩ := HYg.out
    exact k3_of h2 h3 k3 k4 k5 k6
   have hXs : V2.heap.size + 2 ≤ Z.heap.size := by have := (Array.getElem?_eq_some_iff.1 bx).1; omega
   have HK3 := Lib.hid hK3
   have HJ := Lib.hid hj
   have HBx := Lib.hid bx
   have H8 := Lib.hid hv.c8
   have HWn : Hid (wrap64 ((k : Int) + 1) = (k : Int) + 1 ∧ IntKind.i64.wrap ((k : Int) + 1) = (k : Int) + 1) := ⟨wrap64I5 _ (by omega) (by omega), wrapI5 _ (by omega) (by omega)⟩
   have HPq : Hid (pre.length ≠ m) := by unfold Hid; rw [← hk]; omega
   have HK := Lib.hid hk
   unfold EntD.cells
   clear hl' hkv hkx hvx hxo hxc hy hym hsame hcs hyo bx hyg hj hu hv hk hr c0 c1 c2' c3 c4 c5 c6 e0 e1 e2 e3 e4 e5 e6 wc nc hK3
   gi_wp2_with fail
   refine wpIn_eq3 ?Fr0 ?r1 ?r2
   case r1 => exact lent_r51 hnm KS.out HSe.out
   case r2 =>
    as_aux_lemma =>
     intro Z2 hb2
     have hj2 := HJ.out.later hb2
     have nc := hj2.i_.cell
     have nf := hj2.i_.fz
     have HJ2 := Lib.hid hj2
     have HB2' := Lib.hid hb2
     clear KS HSe hj2
     by_cases h12 : k < 12
     ·have hd1 : decide ((k : Int) < 12) = true := by simp; omega
      have hd2 : (k : Int) < 12 := by omega
      have hd3 : decide (k < 12) = true := by simp; omega
      have k8 := (H8.out.later hb2).cell
      have bx2 := HBx.out.later hb2
      obtain ⟨c0, c1, c2', c3, c4, c5, c6⟩ := (⟨bx2.vr, bx2.fam, bx2.vq, bx2.ts, bx2.seq, bx2.kind, bx2.vv⟩ : _ ∧ _ ∧ _ ∧ _ ∧ _ ∧ _ ∧ _)
      have HFe : Hid (Calls Tryz.prog 43 #[.pointer (some ⟨gk, 0, none⟩), .agg #[e.vr, .int .i64 e.fam, e.vq, .int .i64 e.ts, .int .i64 e.seq, .int .i64 e.kind, e.vv]] Z2 fun z w' => (∃ v, z = .returned v) ∧ BkB w' gk (n + 3 * min k 12 + 3) (fun j => F j ∨ e.blk j ∨ (Z2.heap.size ≤ j ∧ j < w'.heap.size)) ∧ Fb Z2 w' (fun j => F j ∨ e.blk j)) := kentryB (D := e) HJ2.out.fu (HK3.out.later hb2) (fun j hj h => (HYg.out.xb hj).2.1 (.inl h)) (by omega)
      clear bx2 hb2
      gi_wp2_with fail
      refine ⟨trivial, ?_⟩
      refine (CallsIn.inRound l' (callsIn_wide.2 HFe.out)).mono ?_
      rintro z Z3 ⟨⟨vv, rfl⟩, fu2, f2⟩
      have hlo : ∀ j, e.blk j → V2.heap.size + 2 ≤ j := fun j hj => (HYg.out.xb hj).1
      have hj3 := HJ2.out.grow (by have := HB2'.out.size; omega) fu2 f2 hlo hgcV hKc
      have HFin := Lib.hid (lj_round HJ.out hXs HB2'.out fu2 f2 hlo hgcV hKc HK.out h12)
      have nc := hj3.i_.cell
      have nf := hj3.i_.fz
      have hwn := HWn.out.1
      have hwn2 := HWn.out.2
      clear c0 c1 c2' c3 c4 c5 c6 k8 HFe fu2 f2 hj3 hlo
      gi_wp2
      exact ⟨HPq.out, HFin.out⟩
     ·have hd1 : decide ((k : Int) < 12) = false := by simp; omega
      have hd2 : ¬ (k : Int) < 12 := by omega
      have hd3 : decide (k < 12) = false := by simp; omega
      have HFin := Lib.hid (lj_skip (x := e) HJ.out hb2 hgcV hKc HK.out h12)
      have hwn := HWn.out.1
      have hwn2 := HWn.out.2
      clear hb2
      gi_wp2
      exact ⟨HPq.out, HFin.out⟩
 case fin =>
  rintro D xs F Z hD hcase hdf
  have hj : LJ V2 Z gk gc KO m (n + 3 * min m 12) F := by
   rcases hcase with ⟨⟨h1, -⟩, h⟩ | ⟨-, h⟩
   ·have e : xs.length = m := by rw [h1, kvL_len, hmz]
    rw [← e]
    exact h
   ·exact h.elim
  have hnd : ¬ F D := fun h => by
   rcases hj.new D h with h | h
   ·have := HLt.out D h; omega
   ·omega
  exact HQ.out _ D Z F rfl rfl rfl rfl rfl rfl rfl rfl rfl rfl (hj.li HI2.out (by omega)) ((Fb.of_below HB2.out).trans' hj.fb HB2.out.size (fun j hj' h => by
   rcases h with h | h
   ·exact h
   ·omega)) (fun j h => (hj.new j h).imp_right (fun h => by omega)) (by omega) hdf hnd
end Go.Proofs.YtchebhafabhabaaGreatDoor

namespace Go.Proofs.YtchebhafabhabaaGreatDoor
open Go.RowKit Go.Shelf
set_option linter.unusedVariables false

theorem LU.n_ {U : World} {b4 b5 r m c na ca : Nat} {a aa : Option Addr} {zs : List EntD} {s : Bs} (h : LU U b4 b5 r m c na ca a aa zs s) : s.n = m := by
 have := bldS_n r zs Bs.zero (by rw [h.bd])
 rw [h.bd, h.hm] at this
 simpa [Bs.zero] using this
theorem lent_build {X : World} {b4 b5 r m c na ca : Nat} {a aa : Option Addr} {zs : List EntD} {s : Bs} (h : LU X b4 b5 r m c na ca a aa zs s) :
  Calls Tryz.prog 18 #[.int .i64 (r : Int), .slice a m c] X fun z w' => ∃ a1 m1 c1, z = .returned (.tuple #[.slice a1 m1 c1, .int .i64 0]) ∧ Own w' X.heap.size (.slice a1 m1 c1) m1 (blockL s.es s.ps m r) ∧ Below X.heap.size X w' := by
 have hb := build_any (r : Int) h.rd h.tab
 rw [h.hm] at hb
 refine hb.mono ?_
 rintro z w' ⟨v, E, rfl, b1, -, -, -, h4⟩
 have hne0 : zs ≠ [] := fun e => h.la.some_ (by rw [e]; rfl)
 have hr : (1 : Int) ≤ (r : Int) ∧ (r : Int) ≤ 16 := by have := h.la.r1; have := h.la.r16; omega
 have e0 : (r : Int).toNat = r := by omega
 rw [e0, h.bd] at h4
 obtain ⟨rfl, a1, m1, c1, rfl, o⟩ := h4 hr rfl hne0
 rw [h.n_] at o
 exact ⟨a1, m1, c1, rfl, o, b1⟩
theorem lent_finish {X : World} {b4 b5 b8 gk gb cb gx cx i q x r b ne ce np cp m c na ca : Nat} {a aa : Option Addr} {zs : List EntD} {s : Bs} {ve vp vl : Value} (h : LU X b4 b5 r m c na ca a aa zs s) (hv : LV X b8 gk gb cb gx cx i q x r b ne ce np cp zs s ve vp vl) :
  Calls Tryz.prog 41 #[.pointer (some ⟨q, 0, none⟩)] X fun z w' => ∃ a1 m1 c1, z = .returned (.tuple #[.slice a1 m1 c1, .int .i64 0]) ∧ Own w' X.heap.size (.slice a1 m1 c1) m1 (blockL s.es s.ps m r) ∧ Below X.heap.size X w' := by
 have hne0 : zs ≠ [] := fun e => h.la.some_ (by rw [e]; rfl)
 have hm0 : 0 < m := by rw [← h.hm]; exact List.length_pos_iff.2 hne0
 have hm := h.len
 have hsz := hv.bd.size
 have h16 := h.la.r16
 obtain ⟨ae, ce', ee⟩ := own_form hv.bd.es.2
 obtain ⟨ap, cp', ep⟩ := own_form hv.bd.ps.2
 have hbx := hv.bd.box
 have hes := hv.bd.es
 have hps := hv.bd.ps
 rw [ee, ep, h.n_] at hbx
 rw [ee] at hes
 rw [ep] at hps
 exact finish_any hbx (hes.rd hv.bd.byE (by omega)) (hps.rd hv.bd.byP (by omega)) (by omega) (by omega) hm0 (by omega) (by omega) h.tab sumL_lt
def LK (V X : World) (gk : Nat) (KO : Nat → Prop) (Y : World) (n : Nat) : Prop := ∃ KO' : Nat → Prop, LI V Y gk n KO' ∧ Fb X Y KO ∧ ∀ k, KO' k → KO k ∨ X.heap.size ≤ k
theorem lk_keep {V X Y Z : World} {gk n n' : Nat} {KO KO' D : Nat → Prop} (h1 : LI V Y gk n KO') (h2 : Fb X Y KO) (h3 : ∀ k, KO' k → KO k ∨ X.heap.size ≤ k) (hb : BkB Z gk n' (fun k => KO' k ∨ D k ∨ (Y.heap.size ≤ k ∧ k < Z.heap.size))) (f : Fb Y Z (fun k => KO' k ∨ D k)) (hD : ∀ k, D k → X.heap.size ≤ k) (hV : V.heap.size ≤ X.heap.size) : LI V Z gk n' (fun k => KO' k ∨ D k ∨ (Y.heap.size ≤ k ∧ k < Z.heap.size)) ∧ Fb X Z KO ∧ ∀ k, (KO' k ∨ D k ∨ (Y.heap.size ≤ k ∧ k < Z.heap.size)) → KO k ∨ X.heap.size ≤ k := by
 have hs := h2.size
 refine ⟨h1.keep hb f (fun k hk => by have := hD k hk; omega), h2.trans' f h2.size (fun j hj hC => ?_), ?_⟩
 ·rcases hC with k | k
  ·rcases h3 j k with k | k
   ·exact k
   ·omega
  ·have := hD j k; omega
 ·rintro k (k1 | k1 | k1)
  ·exact h3 k k1
  ·exact .inr (hD k k1)
  ·exact .inr (by omega)
theorem LK.at_ {U V X Y : World} {b4 b5 b8 gk gb cb gx cx i q x r b ne ce np cp m c na ca n : Nat} {a aa : Option Addr} {zs : List EntD} {s : Bs} {ve vp vl : Value} {KO : Nat → Prop} (h : LK V X gk KO Y n) (hU : LU U b4 b5 r m c na ca a aa zs s) (hg : gk = U.heap.size) (bV : Below U.heap.size U V) (hV : LV V b8 gk gb cb gx cx i q x r b ne ce np cp zs s ve vp vl) : LU Y b4 b5 r m c na ca a aa zs s ∧ LV Y b8 gk gb cb gx cx i q x r b ne ce np cp zs s ve vp vl := by
 obtain ⟨KO', h1, h2, h3⟩ := h
 exact ⟨hU.at_ hg bV h1, hV.fb h1.fb⟩
theorem lk_end {X Y Z : World} {KO KO' KO2 : Nat → Prop} (h2 : Fb X Y KO) (h3 : ∀ k, KO' k → KO k ∨ X.heap.size ≤ k) (f : Fb Y Z KO') (h4 : ∀ k, KO2 k → KO' k ∨ Y.heap.size ≤ k) : Fb X Z KO ∧ ∀ k, KO2 k → KO k ∨ X.heap.size ≤ k := by
 have hs := h2.size
 refine ⟨h2.trans' f h2.size (fun j hj hC => ?_), fun k hk => ?_⟩
 ·rcases h3 j hC with k | k
  ·exact k
  ·omega
 ·rcases h4 k hk with k | k
  ·exact h3 _ k
  ·exact .inr (by omega)
set_option maxRecDepth 100000 in
set_option maxHeartbeats 8000000 in
theorem lent_head {U V X : World} {b4 b5 b8 gk gb cb gx cx i q x r b ne ce np cp m c na ca n : Nat} {a aa : Option Addr} {zs : List EntD} {s : Bs} {ve vp vl v17 : Value} {KO : Nat → Prop} {ds : List Deferred} {Q : Exit → Act → World → Prop} {s1 s2 s3 s7 s11 s12 s13 s14 s15 s16 s19 s20 s21 s22 s23 s24 s25 s26 s27 s28 s29 s30 s31 s32 s33 s34 s35 s36 s37 s38 s39 s40 s41 s42 s43 s44 s45 s46 s47 s48 s49 s50 s51 s52 s53 s54 s55 s56 s57 s58 s59 s60 s61 s62 s63 s64 s65 s66 s67 s68 s69 s70 s71 s72 s73 s74 s75 s76 s77 s78 s79 s80 s81 s82 s83 s84 s85 s86 s87 s88 s89 s90 s91 s92 s93 s94 s95 s96 s97 s98 s99 s100 s101 s102 s103 s104 s105 s106 s107 s108 s109 s110 s111 s112 s113 s114 s115 s116 s117 s118 s119 s120 s121 s122 s123 s124 s125 s126 s127 s128 s129 s130 s131 s132 s133 s134 s135 s136 s137 s138 s139 s140 s141 s142 s143 s144 s145 s146 s147 s148 s149 s150 s151 s152 s153 s154 s155 s156 s157 s158 s159 s160 s161 s162 s163 s164 s165 s166 s167 s168 s169 s170 s171 s172 s173 s174 s175 s176 s177 s178 s179 s180 s181 s182 s183 s184 s185 s186 s187 s188 s189 s190 s191 s192 s193 s194 s195 s196 s197 s198 s199 s200 s201 s202 s203 s204 s205 s206 s207 s208 s209 s210 s211 s212 s213 s214 s215 s216 s217 s218 s219 s220 s221 s222 s223 s224 s225 s226 s227 s228 s229 s230 s231 s232 s233 s234 s235 s236 s237 s238 s239 s240 s241 s242 s243 s244 s245 s246 s247 s248 s249 s250 s251 : Value}
  (hU : LU U b4 b5 r m c na ca a aa zs s) (hg : gk = U.heap.size) (bV : Below U.heap.size U V) (hV : LV V b8 gk gb cb gx cx i q x r b ne ce np cp zs s ve vp vl) (hi : LI V X gk n KO) (hn : n ≤ 700) (hi2 : i < 2) (hgV : gk < V.heap.size)
  (hQ : ∀ (A : Array Value) (D : Nat) (Z : World) (KO' : Nat → Prop), A.size = 252 → A[0]? = some (.int .i64 (r : Int)) → A[4]? = some (.pointer (some ⟨b4, 0, none⟩)) → A[5]? = some (.pointer (some ⟨b5, 0, none⟩)) → A[6]? = some (.slice aa na ca) → A[8]? = some (.pointer (some ⟨b8, 0, none⟩)) → A[9]? = some (.slice (some ⟨gb, 0, none⟩) 2 cb) → A[10]? = some (.slice (some ⟨gx, 0, none⟩) 2 cx) → A[17]? = some v17 → A[18]? = some (.int .i64 (i : Int)) → LI V Z gk (n + 2 + 6 * min m 12) KO' → Fb X Z KO → (∀ k, KO' k → KO k ∨ X.heap.size ≤ k) → X.heap.size ≤ D → Z.heap[D]? = some (.deferred (some [])) → ¬ KO' D → Q .normal { tmps := A, defers := { target := .collected D, args := #[] } :: ds } Z) :
  (inC (fstC (nthC 1 (inC (inC (nthC 1 (inC (fstC (nthC 1 (inC (inC (nthC 1 (fstC (nthC 10 ((Tryz.f6).body.getD .skip))))))))))))))).wpIn Fence.wide 9 Tryz.prog Q { tmps := #[.int .i64 (r : Int), s1, s2, s3, .pointer (some ⟨b4, 0, none⟩), .pointer (some ⟨b5, 0, none⟩), .slice aa na ca, s7, .pointer (some ⟨b8, 0, none⟩), .slice (some ⟨gb, 0, none⟩) 2 cb, .slice (some ⟨gx, 0, none⟩) 2 cx, s11, s12, s13, s14, s15, s16, v17, .int .i64 (i : Int), s19, s20, s21, s22, s23, s24, s25, s26, s27, s28, s29, s30, s31, s32, s33, s34, s35, s36, s37, s38, s39, s40, s41, s42, s43, s44, s45, s46, s47, s48, s49, s50, s51, s52, s53, s54, s55, s56, s57, s58, s59, s60, s61, s62, s63, s64, s65, s66, s67, s68, s69, s70, s71, s72, s73, s74, s75, s76, s77, s78, s79, s80, s81, s82, s83, s84, s85, s86, s87, s88, s89, s90, s91, s92, s93, s94, s95, s96, s97, s98, s99, s100, s101, s102, s103, s104, s105, s106, s107, s108, s109, s110, s111, s112, s113, s114, s115, s116, s117, s118, s119, s120, s121, s122, s123, s124, s125, s126, s127, s128, s129, s130, s131, s132, s133, s134, s135, s136, s137, s138, s139, s140, s141, s142, s143, s144, s145, s146, s147, s148, s149, s150, s151, s152, s153, s154, s155, s156, s157, s158, s159, s160, s161, s162, s163, s164, s165, s166, s167, s168, s169, s170, s171, s172, s173, s174, s175, s176, s177, s178, s179, s180, s181, s182, s183, s184, s185, s186, s187, s188, s189, s190, s191, s192, s193, s194, s195, s196, s197, s198, s199, s200, s201, s202, s203, s204, s205, s206, s207, s208, s209, s210, s211, s212, s213, s214, s215, s216, s217, s218, s219, s220, s221, s222, s223, s224, s225, s226, s227, s228, s229, s230, s231, s232, s233, s234, s235, s236, s237, s238, s239, s240, s241, s242, s243, s244, s245, s246, s247, s248, s249, s250, s251], defers := ds } X := by
 have HQ := Lib.hid hQ
 have HU := Lib.hid hU
 have HG := Lib.hid hg
 have HBV := Lib.hid bV
 have HV := Lib.hid hV
 have hmx : Tryz.prog.follows .mixedOrders = true := by kernel_rfl
 have hUX := hU.at_ hg bV hi
 have hVX := hV.fb hi.fb
 have hne0 : zs ≠ [] := fun h => hU.la.some_ (by rw [h]; rfl)
 have HMz := Lib.hid hU.hm
 have hm80 := hU.len
 have hVs : V.heap.size ≤ X.heap.size := hi.fb.size
 have HLt : Hid (∀ k, KO k → k < X.heap.size) := hi.bk.lt
 have HBy : Hid (Bys (blockL s.es s.ps m r) ∧ (blockL s.es s.ps m r).length ≤ 131072) := ⟨hU.all.1, by rw [blockL_len]; exact hU.la.size⟩
 obtain ⟨bs, hbs⟩ : ∃ bs, bs = blockL s.es s.ps m r := ⟨_, rfl⟩
 obtain ⟨bz, oz, ham⟩ : ∃ bz oz, a = some ⟨bz, oz, none⟩ := by
  rcases hU.rd.at_ with k | ⟨bz, oz, k, -⟩
  ·exact absurd k hne0
  ·exact ⟨bz, oz, k⟩
 subst ham
 have hi0 : (0 : Int) ≤ (i : Int) := by omega
 have hi1 : (i : Int) < 2 := by omega
 have HBu := Lib.hid (lent_build hUX)
 have HFi : Hid (∀ Z, Below X.heap.size X Z → Calls Tryz.prog 41 #[.pointer (some ⟨q, 0, none⟩)] Z fun z w' => ∃ a1 m1 c1, z = .returned (.tuple #[.slice a1 m1 c1, .int .i64 0]) ∧ Own w' Z.heap.size (.slice a1 m1 c1) m1 (blockL s.es s.ps m r) ∧ Below Z.heap.size Z w') := fun Z bZ => lent_finish (hUX.later bZ) (hVX.later bZ)
 have HAll : Hid (∀ Z, Below X.heap.size X Z → Rd Z (.slice aa na ca) (blockL s.es s.ps m r)) := fun Z bZ => hUX.all.later bZ
 have HCb : Hid (∀ Z, Below X.heap.size X Z → Z.cell? ⟨gb, i, none⟩ = some (.pointer (some ⟨q, 0, none⟩)) ∧ Z.cell? ⟨b8, 0, none⟩ = some (.pointer (some ⟨gk, 0, none⟩))) := fun Z bZ => ⟨(hVX.later bZ).cb_, (hVX.later bZ).c8.cell⟩
 rw [← hbs] at HBu HFi HAll HBy
 have wc := hUX.c5.cell
 have HI := Lib.hid hi
 clear hQ hU hg bV hV hi hUX hVX hbs
 show Code.wpIn _ _ _ (Code.seq _ _) _ _ _
 gi_wp2_with fail
 refine ⟨trivial, ?_⟩
 refine (callsIn_wide.2 HBu.out).mono ?_
 rintro z X1 ⟨a1, m1, c1, rfl, o1, b1⟩
 have k1 := (HCb.out _ b1).1
 have HO1 := Lib.hid o1
 have HB1 := Lib.hid b1
 have HF1 := Lib.hid (HFi.out _ b1)
 clear wc HBu HFi o1 b1
 gi_wp2_with fail
 refine ⟨trivial, ?_⟩
 refine (callsIn_wide.2 HF1.out).mono ?_
 rintro z X2 ⟨a2, m2, c2, rfl, o2, b2⟩
 have b02 := HB1.out.trans (b2.mono HB1.out.size)
 have HO2 := Lib.hid o2
 have HB02 := Lib.hid b02
 have HB2 := Lib.hid b2
 have l1 : m1 = bs.length := HO1.out.1
 have l2 : m2 = bs.length := o2.1
 have hr1 := (HO1.out.rd HBy.out.1 (by have := HBy.out.2; omega)).later b2
 have hr2 := o2.rd HBy.out.1 (by have := HBy.out.2; omega)
 have hra := HAll.out _ b02
 have HS1 : Hid (∀ Z, Below X2.heap.size X2 Z → Calls Tryz.prog 20 #[.slice a1 m1 c1, .slice aa na ca] Z fun e w' => e = .returned (.bool true) ∧ Below Z.heap.size Z w') := fun Z bZ => by
  refine (same5_any (hr1.later bZ) (hra.later bZ)).mono ?_
  rintro e w' ⟨rfl, hb⟩
  exact ⟨by rw [decide_eq_true rfl], hb⟩
 have HS2 : Hid (∀ Z, Below X2.heap.size X2 Z → Calls Tryz.prog 20 #[.slice a2 m2 c2, .slice aa na ca] Z fun e w' => e = .returned (.bool true) ∧ Below Z.heap.size Z w') := fun Z bZ => by
  refine (same5_any (hr2.later bZ) (hra.later bZ)).mono ?_
  rintro e w' ⟨rfl, hb⟩
  exact ⟨by rw [decide_eq_true rfl], hb⟩
 clear k1 o2 b2 b02 HF1 l1 l2 hr1 hr2 hra HAll
 gi_wp2_with fail
 refine ⟨trivial, ?_⟩
 refine (callsIn_wide.2 (HS1.out _ (Below.refl _ _))).mono ?_
 rintro z X3 ⟨rfl, b3⟩
 have HB3 := Lib.hid b3
 have HS3 := Lib.hid (HS2.out _ b3)
 clear HS1 HS2 b3
 gi_wp2_with fail
 refine ⟨trivial, ?_⟩
 refine (callsIn_wide.2 HS3.out).mono ?_
 rintro z X4 ⟨rfl, b4'⟩
 have b24 : Below X2.heap.size X2 X4 := HB3.out.trans (b4'.mono HB3.out.size)
 have b04 : Below X.heap.size X X4 := HB02.out.trans (b24.mono HB02.out.size)
 have hI4 := HI.out.later b04
 have s1 := HB1.out.size
 have s2 := HB2.out.size
 have s4 := b24.size
 have o14 := ((HO1.out.later HB2.out).later b24).mono (Nat.zero_le _)
 have o24 := (HO2.out.later b24).mono (Nat.zero_le _)
 have hlo1 : ∀ j, (Value.slice a1 m1 c1).ownBlock = some j → X.heap.size ≤ j ∧ j < X1.heap.size := fun j hj => HO1.out.2.lt j hj
 have hlo2 : ∀ j, (Value.slice a2 m2 c2).ownBlock = some j → X1.heap.size ≤ j ∧ j < X2.heap.size := fun j hj => HO2.out.2.lt j hj
 have HK1 := Lib.hid (bkb_keep hI4.bk o14 (fun j hj h => by have := (hlo1 j hj).1; have := HLt.out j h; omega) HBy.out.1 (by have := HBy.out.2; omega) (by omega))
 have k8 := (HCb.out _ b04).2
 have HLo1 := Lib.hid hlo1
 have HLo2 := Lib.hid hlo2
 have HO24 := Lib.hid o24
 have HI4 := Lib.hid hI4
 have HB04 := Lib.hid b04
 have HSz := Lib.hid (And.intro s1 (And.intro s2 s4))
 clear HS3 HO1 HO2 HB1 HB2 HB3 HB02 b4' b24 b04 hI4 s1 s2 s4 o14 o24 hlo1 hlo2
 gi_wp2_with fail
 refine ⟨trivial, ?_⟩
 refine (callsIn_wide.2 HK1.out).mono ?_
 rintro z X5 ⟨rfl, bk5, f5⟩
 obtain ⟨l5, f05, n5⟩ := lk_keep HI4.out (Fb.of_below HB04.out) (fun k h => .inl h) bk5 (f5.mono (fun j _ h => .inl h)) (fun k hk => (HLo1.out k hk).1) hVs
 have o25 := HO24.out.fb f5 (fun j hj h => by have := (HLo2.out j hj).1; have := HLt.out j h; have := HSz.out.1; omega)
 have HK2 := Lib.hid (bkb_keep l5.bk o25 (fun j hj h => by
  have h2 := HLo2.out j hj
  have hz := HSz.out
  rcases h with h | h | h
  ·have := HLt.out j h; omega
  ·have := (HLo1.out j h).2; omega
  ·omega) HBy.out.1 (by have := HBy.out.2; omega) (by omega))
 have k8 := (HV.out.fb l5.fb).c8.cell
 have HL5 := Lib.hid (And.intro l5 (And.intro f05 n5))
 clear HK1 bk5 f5 l5 f05 n5 o25
 gi_wp2_with fail
 refine ⟨trivial, ?_⟩
 refine (callsIn_wide.2 HK2.out).mono ?_
 rintro z X6 ⟨rfl, bk6, f6⟩
 have HL6 : Hid (LK V X gk KO X6 (n + 2)) := by
  obtain ⟨l6, f06, n6⟩ := lk_keep HL5.out.1 HL5.out.2.1 HL5.out.2.2 bk6 (f6.mono (fun j _ h => .inl h)) (fun k hk => by have := (HLo2.out k hk).1; have := HSz.out.1; omega) hVs
  exact ⟨_, l6, f06, n6⟩
 clear HK2 bk6 f6 HL5 HO24 HI4 HB04 HSz HLo1 HLo2 k8 HCb HI
 gi_wp2_with fail
 rename_i K0 hK0
 have HK0 := Lib.hid hK0
 clear hK0
 gi_loopw [23, 24, 25] (fun cv _ _ wr => ∃ k : Nat, k ≤ m ∧ k ≤ 12 ∧ cv = .int .i64 (k : Int) ∧ Hid (LK V X gk KO wr (n + 2 + 3 * k))) (fun cv _ _ _ => 12 - (intOf cv).toNat)
 case atStart => exact ⟨0, by omega, by omega, rfl, HL6.out⟩
 case round =>
  obtain ⟨k, hkm, hk12, rfl, HU1⟩ := hrel
  obtain ⟨hu, hv⟩ := HU1.out.at_ HU.out HG.out HBV.out HV.out
  have wc := hu.c5.cell
  have xc := hv.cx_
  clear HL6
  by_cases h1 : k < m
  case neg =>
   as_aux_lemma =>
    have hd1 : ¬ (k : Int) < (m : Int) := by omega
    have hd2 : decide ((k : Int) < (m : Int)) = false := by simp; omega
    have hd3 : decide (k < m) = false := by simp; omega
    have hkv : k = min m 12 := by omega
    have HKv := Lib.hid hkv
    clear hkv
    obtain ⟨KO', l', f', n'⟩ := HU1.out
    have HGo := Lib.hid (And.intro l' (And.intro f' n'))
    clear l' f' n' hu hv xc
    gi_wp2
    refine HK0.out _ _ ?_
    refine lent_tail HU.out HG.out HBV.out HV.out HGo.out.1 (by omega) hi2 hgV ?_
    intro A D Z KO'' e0 e1 e2 e3 e4 e5 e6 e7 e8 e9 lz fz nz hD hdf hnd
    obtain ⟨g1, g2⟩ := lk_end HGo.out.2.1 HGo.out.2.2 fz nz
    have hs := HGo.out.2.1.size
    refine HQ.out A D Z KO'' e0 e1 e2 e3 e4 e5 e6 e7 e8 e9 ?_ g1 g2 (by omega) hdf hnd
    rw [show n + 2 + 6 * min m 12 = n + 2 + 3 * k + 3 * min m 12 by omega]
    exact lz
  by_cases h2 : k < 12
  case neg =>
   as_aux_lemma =>
    have hd1 : (k : Int) < (m : Int) := by omega
    have hd2 : decide ((k : Int) < (m : Int)) = true := by simp; omega
    have hd3 : decide (k < m) = true := by simp; omega
    have hd4 : ¬ (k : Int) < 12 := by omega
    have hd5 : decide ((k : Int) < 12) = false := by simp; omega
    have hd6 : decide (k < 12) = false := by simp; omega
    obtain ⟨KO', l', f', n'⟩ := HU1.out
    have HGo := Lib.hid (And.intro l' (And.intro f' n'))
    clear l' f' n' hu hv xc
    gi_wp2
    refine HK0.out _ _ ?_
    refine lent_tail HU.out HG.out HBV.out HV.out HGo.out.1 (by omega) hi2 hgV ?_
    intro A D Z KO'' e0 e1 e2 e3 e4 e5 e6 e7 e8 e9 lz fz nz hD hdf hnd
    obtain ⟨g1, g2⟩ := lk_end HGo.out.2.1 HGo.out.2.2 fz nz
    have hs := HGo.out.2.1.size
    refine HQ.out A D Z KO'' e0 e1 e2 e3 e4 e5 e6 e7 e8 e9 ?_ g1 g2 (by omega) hdf hnd
    rw [show n + 2 + 6 * min m 12 = n + 2 + 3 * k + 3 * min m 12 by omega]
    exact lz
  have hd1 : (k : Int) < (m : Int) := by omega
  have hd2 : decide ((k : Int) < (m : Int)) = true := by simp; omega
  have hd3 : decide (k < m) = true := by simp; omega
  have hd4 : (k : Int) < 12 := by omega
  have hd5 : decide ((k : Int) < 12) = true := by simp; omega
  have hd6 : decide (k < 12) = true := by simp; omega
  have hk0 : (0 : Int) ≤ (k : Int) := by omega
  have HAt := Lib.hid (atB_ap hu.la hv.lk (k : Int))
  have HUv := Lib.hid (And.intro hu hv)
  clear hu hv
  gi_wp2_with fail
  refine ⟨trivial, ?_⟩
  refine (callsIn_wide.2 HAt.out).mono ?_
  rintro z Y1 ⟨b1, h | h⟩
  ·exact absurd ⟨by omega, by rw [kvL_len, HMz.out]; omega⟩ h.1
  obtain ⟨-, kv, y, hkv, rfl, yok, yc, yk, yv, yo1, yo2, yo3, yap⟩ := h
  have hkz : k < zs.length := by rw [HMz.out]; exact h1
  obtain ⟨q0, hq⟩ : ∃ q0, zs[k]? = some q0 := ⟨_, List.getElem?_eq_getElem hkz⟩
  have hqm : q0 ∈ zs := List.mem_of_getElem? hq
  have hqc : checkS q0 = 0 := HUv.out.1.ck q0 hqm
  have hsame : EntD.Same y q0 := by
   have e := kvL_at hq
   rw [show ((k : Int)).toNat = k by omega, e] at hkv
   cases hkv
   exact same_key yc hqc yk yv
  have hyb : ∀ i, y.blk i → wr.heap.size ≤ i ∧ i < Y1.heap.size := fun i h => by
   rcases h with h | h | h
   ·exact yo1.2.lt i h
   ·exact yo2.2.lt i h
   ·exact yo3.2.lt i h
  have hK3 : K3 Y1 y := k3_of yok yc yo1 yo2 yo3 yap
  obtain ⟨vy, fy, vyq, ty, sy, dy, vyv, ry, qy, ly⟩ := y
  have hy0 := yok
  simp only [EntD.Ok] at hy0
  obtain ⟨ay, ky, cy, rfl⟩ := rd_slice hy0.1
  obtain ⟨ayq, kyq, cyq, rfl⟩ := rd_slice hy0.2.1
  obtain ⟨ayv, kyv, cyv, rfl⟩ := rd_slice hy0.2.2
  have ebY := EBox.new Y1 ⟨.slice ay ky cy, fy, .slice ayq kyq cyq, ty, sy, dy, .slice ayv kyv cyv, ry, qy, ly⟩
  have bY := (Below.refl Y1.heap.size Y1).alloc (Nat.le_refl _) (.cells (EntD.mk (.slice ay ky cy) fy (.slice ayq kyq cyq) ty sy dy (.slice ayv kyv cyv) ry qy ly).cells 40)
  simp only [EntD.cells] at ebY bY
  obtain ⟨Y2, hY2⟩ : ∃ Y2, Y2 = Y1.alloc (.cells #[.slice ay ky cy, .int .i64 fy, .slice ayq kyq cyq, .int .i64 ty, .int .i64 sy, .int .i64 dy, .slice ayv kyv cyv] 40) := ⟨_, rfl⟩
  rw [← hY2] at ebY bY
  have bU := b1.trans (bY.mono b1.size)
  have HUx : Hid (∀ wx, Below Y2.heap.size Y2 wx → LU wx b4 b5 r m c na ca (some ⟨bz, oz, none⟩) aa zs s ∧ LV wx b8 gk gb cb gx cx i q x r b ne ce np cp zs s ve vp vl) := fun wx bx => ⟨HUv.out.1.later (bU.trans (bx.mono bU.size)), HUv.out.2.later (bU.trans (bx.mono bU.size))⟩
  have hq2 : ∀ wx, Below Y2.heap.size Y2 wx → ∀ (j : Nat) u, q0.cells.toList[j]? = some u → wx.cell? ⟨bz, oz + k * 7 + j, none⟩ = some u := fun wx bx => by
   rcases (HUx.out wx bx).1.rd.at_ with k' | ⟨b', o', e', hc'⟩
   ·exact absurd k' hne0
   ·cases e'
    exact hc' k q0 hq
  have KS : Hid (∀ wx, Below Y2.heap.size Y2 wx → wx.cell? ⟨b5, 0, none⟩ = some (.slice (some ⟨bz, oz, none⟩) m c) ∧ wx.cell? ⟨b8, 0, none⟩ = some (.pointer (some ⟨gk, 0, none⟩)) ∧ (wx.cell? ⟨Y1.heap.size, 0, none⟩ = some (.slice ay ky cy) ∧ wx.cell? ⟨Y1.heap.size, 1, none⟩ = some (.int .i64 fy) ∧ wx.cell? ⟨Y1.heap.size, 2, none⟩ = some (.slice ayq kyq cyq) ∧ wx.cell? ⟨Y1.heap.size, 3, none⟩ = some (.int .i64 ty) ∧ wx.cell? ⟨Y1.heap.size, 4, none⟩ = some (.int .i64 sy) ∧ wx.cell? ⟨Y1.heap.size, 5, none⟩ = some (.int .i64 dy) ∧ wx.cell? ⟨Y1.heap.size, 6, none⟩ = some (.slice ayv kyv cyv)) ∧ (wx.cell? ⟨bz, oz + k * 7, none⟩ = some q0.vr ∧ wx.cell? ⟨bz, oz + k * 7 + 1, none⟩ = some (.int .i64 q0.fam) ∧ wx.cell? ⟨bz, oz + k * 7 + 2, none⟩ = some q0.vq ∧ wx.cell? ⟨bz, oz + k * 7 + 3, none⟩ = some (.int .i64 q0.ts) ∧ wx.cell? ⟨bz, oz + k * 7 + 4, none⟩ = some (.int .i64 q0.seq) ∧ wx.cell? ⟨bz, oz + k * 7 + 5, none⟩ = some (.int .i64 q0.kind) ∧ wx.cell? ⟨bz, oz + k * 7 + 6, none⟩ = some q0.vv)) := fun wx bx => ⟨(HUx.out wx bx).1.c5.cell, (HUx.out wx bx).2.c8.cell, (ebY.later bx).cells7, hq2 wx bx 0 _ rfl, hq2 wx bx 1 _ rfl, hq2 wx bx 2 _ rfl, hq2 wx bx 3 _ rfl, hq2 wx bx 4 _ rfl, hq2 wx bx 5 _ rfl, hq2 wx bx 6 _ rfl⟩
  have HSe : Hid (∀ Z, Below Y2.heap.size Y2 Z → Calls Tryz.prog 33 #[.agg #[.slice ay ky cy, .int .i64 fy, .slice ayq kyq cyq, .int .i64 ty, .int .i64 sy, .int .i64 dy, .slice ayv kyv cyv], .agg #[q0.vr, .int .i64 q0.fam, q0.vq, .int .i64 q0.ts, .int .i64 q0.seq, .int .i64 q0.kind, q0.vv]] Z fun r w' => r = .returned (.bool true) ∧ Below Z.heap.size Z w') := fun Z bz' => by
   refine (se_any ((yok.later bY).later bz') ((HUx.out Z bz').1.rd.ok q0 hqm)).mono ?_
   rintro r w' ⟨rfl, hb⟩
   rw [decide_eq_true hsame]
   exact ⟨rfl, hb⟩
  have HY2 := Lib.hid hY2
  have HYs := Lib.hid (And.intro hyb (And.intro hK3 bY))
  have HBU := Lib.hid bU
  have D0 : Below Y2.heap.size Y2 Y2.drew := (Below.refl _ _).drew
  clear hkv yok yc yk yv b1 hy0 ebY bY hY2 bU hq2 hsame hq hqm hqc HAt wc xc yo1 yo2 yo3 yap hK3 hyb
  unfold EntD.cells
  gi_wp2_with fail
  rw [← HY2.out]
  refine wpIn_wide.2 ?_
  go_region_held3 (fun wx => wx.cell? ⟨b5, 0, none⟩ = some (.slice (some ⟨bz, oz, none⟩) m c) ∧ wx.cell? ⟨b8, 0, none⟩ = some (.pointer (some ⟨gk, 0, none⟩)) ∧ (wx.cell? ⟨Y1.heap.size, 0, none⟩ = some (.slice ay ky cy) ∧ wx.cell? ⟨Y1.heap.size, 1, none⟩ = some (.int .i64 fy) ∧ wx.cell? ⟨Y1.heap.size, 2, none⟩ = some (.slice ayq kyq cyq) ∧ wx.cell? ⟨Y1.heap.size, 3, none⟩ = some (.int .i64 ty) ∧ wx.cell? ⟨Y1.heap.size, 4, none⟩ = some (.int .i64 sy) ∧ wx.cell? ⟨Y1.heap.size, 5, none⟩ = some (.int .i64 dy) ∧ wx.cell? ⟨Y1.heap.size, 6, none⟩ = some (.slice ayv kyv cyv)) ∧ (wx.cell? ⟨bz, oz + k * 7, none⟩ = some q0.vr ∧ wx.cell? ⟨bz, oz + k * 7 + 1, none⟩ = some (.int .i64 q0.fam) ∧ wx.cell? ⟨bz, oz + k * 7 + 2, none⟩ = some q0.vq ∧ wx.cell? ⟨bz, oz + k * 7 + 3, none⟩ = some (.int .i64 q0.ts) ∧ wx.cell? ⟨bz, oz + k * 7 + 4, none⟩ = some (.int .i64 q0.seq) ∧ wx.cell? ⟨bz, oz + k * 7 + 5, none⟩ = some (.int .i64 q0.kind) ∧ wx.cell? ⟨bz, oz + k * 7 + 6, none⟩ = some q0.vv)) (first | exact KS.out _ D0 | exact KS.out _ D1) (first | (go_at_call 33; refine Calls.mono (HSe.out _ D0) ?_; rintro e1 wk ⟨rfl, hbk⟩; have D1 := D0.trans (hbk.mono D0.size)))
  have bW : Below wr.heap.size wr wk := HBU.out.trans (D1.mono HBU.out.size)
  obtain ⟨KO', l0, f0, n0⟩ := HU1.out
  have l' := l0.later bW
  have f' := f0.trans (Fb.of_below bW)
  obtain ⟨-, k8, ⟨d2, d3, d4, d5, d6, d7, d8⟩, -⟩ := KS.out _ D1
  have hK3w := (HYs.out.2.1.later HYs.out.2.2).later D1
  have HFe : Hid (Calls Tryz.prog 43 #[.pointer (some ⟨gk, 0, none⟩), .agg #[.slice ay ky cy, .int .i64 fy, .slice ayq kyq cyq, .int .i64 ty, .int .i64 sy, .int .i64 dy, .slice ayv kyv cyv]] wk fun z w' => (∃ v, z = .returned v) ∧ BkB w' gk (n + 2 + 3 * k + 3) (fun j => KO' j ∨ (EntD.mk (.slice ay ky cy) fy (.slice ayq kyq cyq) ty sy dy (.slice ayv kyv cyv) ry qy ly).blk j ∨ (wk.heap.size ≤ j ∧ j < w'.heap.size)) ∧ Fb wk w' (fun j => KO' j ∨ (EntD.mk (.slice ay ky cy) fy (.slice ayq kyq cyq) ty sy dy (.slice ayv kyv cyv) ry qy ly).blk j)) := kentryB (D := (EntD.mk (.slice ay ky cy) fy (.slice ayq kyq cyq) ty sy dy (.slice ayv kyv cyv) ry qy ly)) l'.bk hK3w (fun j hj h => by have := (HYs.out.1 j hj).1; have := l0.bk.lt j h; omega) (by omega)
  have HLk := Lib.hid (And.intro l' (And.intro f' n0))
  have hXw : X.heap.size ≤ wr.heap.size := f0.size
  clear l' f' l0 f0 n0 hK3w bW D0 D1 hbk KS HSe
  gi_wp2_with fail
  refine ⟨trivial, ?_⟩
  refine (callsIn_wide.2 HFe.out).mono ?_
  rintro z Z ⟨⟨vv, rfl⟩, fu2, f2⟩
  have HNx : Hid (LK V X gk KO Z (n + 2 + 3 * (k + 1))) := by
   obtain ⟨g1, g2, g3⟩ := lk_keep HLk.out.1 HLk.out.2.1 HLk.out.2.2 fu2 f2 (fun j hj => by have := (HYs.out.1 j hj).1; omega) hVs
   rw [show n + 2 + 3 * k + 3 = n + 2 + 3 * (k + 1) by omega] at g1
   exact ⟨_, g1, g2, g3⟩
  clear k8 d2 d3 d4 d5 d6 d7 d8 HFe fu2 f2 HLk HYs HBU HUv HUx HU1
  gi_wp2
  go_roundw
  case rel => exact ⟨k + 1, by omega, by omega, by go_num, HNx.out⟩
  case measure => simp [intOf] <;> omega
end Go.Proofs.YtchebhafabhabaaGreatDoor
