import Derived.Test.YtchebhafabhabaaGreatDoorK25
namespace Go.Proofs.YtchebhafabhabaaGreatDoor
open Go.RowKit Go.Shelf
set_option linter.unusedVariables false

set_option maxRecDepth 100000 in
set_option maxHeartbeats 8000000 in
theorem reads_r27 {l' : Nat} {X : World} {b11 b16 b17 bz oz cap mz n : Nat} {x y : EntD} {s0 s1 s2 s3 s4 s5 s6 s7 s8 s9 s10 s12 s13 s14 s15 s17 s19 s20 s21 s22 s23 s24 s25 s26 s27 s28 s29 s30 s31 s32 s33 s34 s35 s36 s37 s38 s39 s40 s41 s42 s43 s44 s45 s46 s47 s48 s49 s50 s51 s52 s53 s54 s55 s56 s57 s58 s59 s60 s61 s62 s63 s64 s65 s66 s67 s68 s69 s70 s71 s72 s73 s74 s75 s76 s77 s78 s79 s80 s81 s82 s83 s84 s85 s86 s87 s88 s89 s90 s91 s92 s93 s94 s95 s96 s97 s98 s99 s100 s101 s102 s103 s104 s105 s106 s107 s108 s109 s110 s111 s112 s113 s114 s115 s116 s117 s118 s119 s120 s121 s122 s123 s124 s125 s126 s127 s128 s129 s130 s131 s132 s133 s134 s135 s136 s137 s138 s139 s140 s141 s142 s143 s144 s145 s146 s147 s148 s149 s150 s151 s152 s153 s154 s155 s156 s157 s158 s159 s160 s161 s162 s163 s164 s165 s166 s167 s168 s169 s170 s171 s172 s173 s174 s175 s176 s177 s178 s179 s180 s181 s182 s183 s184 s185 s186 s187 s188 s189 s190 s191 s192 s193 s194 s195 s196 s197 s198 s199 s200 s201 s202 s203 s204 s205 s206 s207 s208 s209 s210 s211 s212 s213 s214 s215 s216 : Value} (hn : n < mz) (KS : ∀ wx, Below X.heap.size X wx → wx.cell? ⟨b16, 0, none⟩ = some (.int .i64 (n : Int)) ∧ wx.cell? ⟨b11, 0, none⟩ = some (.slice (some ⟨bz, oz, none⟩) mz cap) ∧ wx.cell? ⟨b17, 0, none⟩ = some x.vr ∧ wx.cell? ⟨b17, 1, none⟩ = some (.int .i64 x.fam) ∧ wx.cell? ⟨b17, 2, none⟩ = some x.vq ∧ wx.cell? ⟨b17, 3, none⟩ = some (.int .i64 x.ts) ∧ wx.cell? ⟨b17, 4, none⟩ = some (.int .i64 x.seq) ∧ wx.cell? ⟨b17, 5, none⟩ = some (.int .i64 x.kind) ∧ wx.cell? ⟨b17, 6, none⟩ = some x.vv ∧ wx.cell? ⟨bz, oz, none⟩ = some y.vr ∧ wx.cell? ⟨bz, oz + 1, none⟩ = some (.int .i64 y.fam) ∧ wx.cell? ⟨bz, oz + 2, none⟩ = some y.vq ∧ wx.cell? ⟨bz, oz + 3, none⟩ = some (.int .i64 y.ts) ∧ wx.cell? ⟨bz, oz + 4, none⟩ = some (.int .i64 y.seq) ∧ wx.cell? ⟨bz, oz + 5, none⟩ = some (.int .i64 y.kind) ∧ wx.cell? ⟨bz, oz + 6, none⟩ = some y.vv) (hSe : ∀ Z, Below X.heap.size X Z → Calls Tryz.prog 33 #[.agg #[x.vr, .int .i64 x.fam, x.vq, .int .i64 x.ts, .int .i64 x.seq, .int .i64 x.kind, x.vv], .agg #[y.vr, .int .i64 y.fam, y.vq, .int .i64 y.ts, .int .i64 y.seq, .int .i64 y.kind, y.vv]] Z fun r w' => r = .returned (.bool true) ∧ Below Z.heap.size Z w') :
  (fstC (fstC (inC (inC (inC (nthC 1 (inC (nthC 1 (fstC (nthC 3 (inC (inC (inC (nthC 1 (fstC (nthC 14 ((Tryz.f4).body.getD .skip)))))))))))))))) ).wpIn (Fence.wide.inRound l') 9 Tryz.prog (fun e a' w' => match e with | .normal => a' = { tmps := #[s0, s1, s2, s3, s4, s5, s6, s7, s8, s9, s10, .pointer (some ⟨b11, 0, none⟩), s12, s13, s14, s15, .pointer (some ⟨b16, 0, none⟩), s17, .pointer (some ⟨b17, 0, none⟩), s19, s20, s21, s22, s23, s24, s25, s26, s27, s28, s29, s30, s31, s32, s33, s34, s35, s36, s37, s38, s39, s40, s41, s42, s43, s44, s45, s46, s47, s48, s49, s50, s51, s52, s53, s54, s55, s56, s57, s58, s59, s60, s61, s62, s63, s64, s65, s66, s67, s68, s69, s70, s71, s72, s73, s74, s75, s76, s77, s78, s79, s80, s81, s82, s83, s84, s85, s86, s87, s88, s89, s90, s91, s92, s93, s94, s95, s96, s97, s98, s99, s100, s101, s102, s103, s104, s105, s106, s107, s108, s109, s110, s111, s112, s113, s114, s115, s116, .agg #[x.vr, .int .i64 x.fam, x.vq, .int .i64 x.ts, .int .i64 x.seq, .int .i64 x.kind, x.vv], .slice (some ⟨bz, oz, none⟩) mz cap, .pointer (some ⟨bz, oz, none⟩), .agg #[y.vr, .int .i64 y.fam, y.vq, .int .i64 y.ts, .int .i64 y.seq, .int .i64 y.kind, y.vv], .bool true, .bool false, s123, s124, s125, s126, s127, s128, s129, s130, s131, s132, s133, s134, s135, s136, s137, s138, s139, s140, s141, s142, s143, s144, s145, s146, s147, s148, s149, s150, s151, s152, s153, s154, s155, s156, s157, s158, s159, s160, s161, s162, s163, s164, s165, s166, s167, s168, s169, s170, s171, s172, s173, s174, s175, s176, s177, s178, s179, s180, s181, s182, s183, s184, s185, s186, s187, s188, s189, s190, s191, s192, s193, s194, s195, s196, s197, s198, s199, s200, s201, s202, s203, s204, s205, s206, s207, s208, s209, s210, s211, s212, s213, s214, s215, s216], defers := [] } ∧ Below X.heap.size X w' | _ => False) { tmps := #[s0, s1, s2, s3, s4, s5, s6, s7, s8, s9, s10, .pointer (some ⟨b11, 0, none⟩), s12, s13, s14, s15, .pointer (some ⟨b16, 0, none⟩), s17, .pointer (some ⟨b17, 0, none⟩), s19, s20, s21, s22, s23, s24, s25, s26, s27, s28, s29, s30, s31, s32, s33, s34, s35, s36, s37, s38, s39, s40, s41, s42, s43, s44, s45, s46, s47, s48, s49, s50, s51, s52, s53, s54, s55, s56, s57, s58, s59, s60, s61, s62, s63, s64, s65, s66, s67, s68, s69, s70, s71, s72, s73, s74, s75, s76, s77, s78, s79, s80, s81, s82, s83, s84, s85, s86, s87, s88, s89, s90, s91, s92, s93, s94, s95, s96, s97, s98, s99, s100, s101, s102, s103, s104, s105, s106, s107, s108, s109, s110, s111, s112, s113, s114, s115, s116, s117, s118, s119, s120, s121, s122, s123, s124, s125, s126, s127, s128, s129, s130, s131, s132, s133, s134, s135, s136, s137, s138, s139, s140, s141, s142, s143, s144, s145, s146, s147, s148, s149, s150, s151, s152, s153, s154, s155, s156, s157, s158, s159, s160, s161, s162, s163, s164, s165, s166, s167, s168, s169, s170, s171, s172, s173, s174, s175, s176, s177, s178, s179, s180, s181, s182, s183, s184, s185, s186, s187, s188, s189, s190, s191, s192, s193, s194, s195, s196, s197, s198, s199, s200, s201, s202, s203, s204, s205, s206, s207, s208, s209, s210, s211, s212, s213, s214, s215, s216], defers := [] } X := by
 have hn1 : (n : Int) < (mz : Int) := by omega
 have hn0 : (0 : Int) ≤ (n : Int) := by omega
 have d1 : decide ((mz : Int) ≤ (n : Int)) = false := by simp; omega
 have d2 : decide (mz ≤ n) = false := by simp; omega
 have hmz0 : (0 : Int) < (mz : Int) := by omega
 have D0 : Below X.heap.size X X.drew := (Below.refl _ _).drew
 have HKS := Lib.hid KS
 have HSe := Lib.hid hSe
 clear KS hSe
 show Code.wpIn _ _ _ (Code.region 27 _ true) _ _ _
 refine wpIn_region_any (by kernel_rfl) (anyIn (by kernel_rfl) (fun ⟨_, _, h⟩ => h) _ _ _ _ (wpAny_of_held (S := fun wx => wx.cell? ⟨b16, 0, none⟩ = some (.int .i64 (n : Int)) ∧ wx.cell? ⟨b11, 0, none⟩ = some (.slice (some ⟨bz, oz, none⟩) mz cap) ∧ wx.cell? ⟨b17, 0, none⟩ = some x.vr ∧ wx.cell? ⟨b17, 1, none⟩ = some (.int .i64 x.fam) ∧ wx.cell? ⟨b17, 2, none⟩ = some x.vq ∧ wx.cell? ⟨b17, 3, none⟩ = some (.int .i64 x.ts) ∧ wx.cell? ⟨b17, 4, none⟩ = some (.int .i64 x.seq) ∧ wx.cell? ⟨b17, 5, none⟩ = some (.int .i64 x.kind) ∧ wx.cell? ⟨b17, 6, none⟩ = some x.vv ∧ wx.cell? ⟨bz, oz, none⟩ = some y.vr ∧ wx.cell? ⟨bz, oz + 1, none⟩ = some (.int .i64 y.fam) ∧ wx.cell? ⟨bz, oz + 2, none⟩ = some y.vq ∧ wx.cell? ⟨bz, oz + 3, none⟩ = some (.int .i64 y.ts) ∧ wx.cell? ⟨bz, oz + 4, none⟩ = some (.int .i64 y.seq) ∧ wx.cell? ⟨bz, oz + 5, none⟩ = some (.int .i64 y.kind) ∧ wx.cell? ⟨bz, oz + 6, none⟩ = some y.vv) _ _ _ _ ?_))
 change wpAnyH _ _ _ _ _ _ _ _ (World.drew _)
 have hHeld := HKS.out _ D0
 refine wpAnyH_take (i := 0) (oi := { dst := some 117, op := _, type := _, pos := _, after := _, guard := _ }) (v := .agg #[x.vr, .int .i64 x.fam, x.vq, .int .i64 x.ts, .int .i64 x.seq, .int .i64 x.kind, x.vv]) rfl (by kernel_rfl) (by kernel_rfl) (by kernel_rfl) (fun _ _ _ h => h) (Or.inl ⟨by kernel_rfl, fun wy hy => by (obtain ⟨y0, y1, y2, y3, y4, y5, y6, y7, y8, y9, y10, y11, y12, y13, y14, y15⟩ := hy; go_simp; first | done | omega)⟩) hHeld ?_
 try simp only [Act.put, List.setIfInBounds_toArray, List.set_cons_zero, List.set_cons_succ]
 refine wpAnyH_take (i := 1) (oi := { dst := some 118, op := _, type := _, pos := _, after := _, guard := _ }) (v := .slice (some ⟨bz, oz, none⟩) mz cap) rfl (by kernel_rfl) (by kernel_rfl) (by kernel_rfl) (fun _ _ _ h => h) (Or.inl ⟨by kernel_rfl, fun wy hy => by (obtain ⟨y0, y1, y2, y3, y4, y5, y6, y7, y8, y9, y10, y11, y12, y13, y14, y15⟩ := hy; go_simp; first | done | omega)⟩) hHeld ?_
 try simp only [Act.put, List.setIfInBounds_toArray, List.set_cons_zero, List.set_cons_succ]
 refine wpAnyH_take (i := 2) (oi := { dst := some 119, op := _, type := _, pos := _, after := _, guard := _ }) (v := .pointer (some ⟨bz, oz, none⟩)) rfl (by kernel_rfl) (by kernel_rfl) (by kernel_rfl) (fun _ _ _ h => h) (Or.inl ⟨by kernel_rfl, fun wy hy => by (obtain ⟨y0, y1, y2, y3, y4, y5, y6, y7, y8, y9, y10, y11, y12, y13, y14, y15⟩ := hy; go_simp; first | done | omega)⟩) hHeld ?_
 try simp only [Act.put, List.setIfInBounds_toArray, List.set_cons_zero, List.set_cons_succ]
 refine wpAnyH_take (i := 3) (oi := { dst := some 120, op := _, type := _, pos := _, after := _, guard := _ }) (v := .agg #[y.vr, .int .i64 y.fam, y.vq, .int .i64 y.ts, .int .i64 y.seq, .int .i64 y.kind, y.vv]) rfl (by kernel_rfl) (by kernel_rfl) (by kernel_rfl) (fun _ _ _ h => h) (Or.inl ⟨by kernel_rfl, fun wy hy => by (obtain ⟨y0, y1, y2, y3, y4, y5, y6, y7, y8, y9, y10, y11, y12, y13, y14, y15⟩ := hy; go_simp; first | done | omega)⟩) hHeld ?_
 try simp only [Act.put, List.setIfInBounds_toArray, List.set_cons_zero, List.set_cons_succ]
 refine wpAnyH_ready (rs := [4]) (by kernel_rfl) (by simp) ?_
 refine AllReadyH.cons (o := { dst := some 121, op := _, type := _, pos := _, after := _, guard := _ }) rfl (fun KK hK => ?_) AllReadyH.nil
 go_simp
 go_at_call 33
 refine (HSe.out _ D0).mono ?_
 rintro z w1 ⟨rfl, hb1⟩
 have D1 := D0.trans (hb1.mono D0.size)
 clear hHeld
 have hHeld := HKS.out _ D1
 try simp only []
 refine hK.out _ _ hHeld (fun _ => ?_)
 clear hK
 try simp only [Act.put, List.setIfInBounds_toArray, List.set_cons_zero, List.set_cons_succ]
 refine wpAnyH_take (i := 5) (oi := { dst := some 122, op := _, type := _, pos := _, after := _, guard := _ }) (v := .bool false) rfl (by kernel_rfl) (by kernel_rfl) (by kernel_rfl) (fun _ _ _ h => h) (Or.inl ⟨by kernel_rfl, fun wy hy => by (obtain ⟨y0, y1, y2, y3, y4, y5, y6, y7, y8, y9, y10, y11, y12, y13, y14, y15⟩ := hy; go_simp; first | done | omega)⟩) hHeld ?_
 try simp only [Act.put, List.setIfInBounds_toArray, List.set_cons_zero, List.set_cons_succ]
 refine wpAnyH_done (by kernel_rfl) ?_ _
 exact ⟨rfl, D1⟩
end Go.Proofs.YtchebhafabhabaaGreatDoor

namespace Go.Proofs.YtchebhafabhabaaGreatDoor
open Go.RowKit Go.Shelf
set_option linter.unusedVariables false
attribute [local go_sem] Oper.semAt_some

theorem wpIn_eq3 {F : Fence} {n : Nat} {P : Program} {c : Code} {Q : Exit → Act → World → Prop} {a : Act} {w : World} (Fr : Act) (h1 : c.wpIn F n P (fun e a' w' => match e with | .normal => a' = Fr ∧ Below w.heap.size w w' | _ => False) a w) (h2 : ∀ w', Below w.heap.size w w' → Q .normal Fr w') : c.wpIn F n P Q a w := by
 refine wpIn_mono h1 ?_
 intro e a' w' h
 cases e with
 | normal => obtain ⟨rfl, hb⟩ := h; exact h2 _ hb
 | panic c => exact h.elim
 | ret => exact h.elim
 | exit id => exact h.elim
 | goto t => exact h.elim
 | outgrown => exact h.elim

set_option maxRecDepth 100000 in
set_option maxHeartbeats 8000000 in
theorem reads_last {V X : World} {gF gi n0 b5 b6 b9 b11 b13 g r b ne ce np cp bz oz cap mz : Nat} {FO F I : Nat → Prop} {stop : Int} {E P : List Nat} {zs : List EntD} {ds : List Deferred} {Q : Exit → Act → World → Prop} {s0 s1 s2 s3 s4 s5 s7 s8 s10 s12 s14 s15 s17 s18 s19 s20 s21 s22 s23 s24 s25 s26 s27 s28 s29 s30 s31 s32 s33 s34 s35 s36 s37 s38 s39 s40 s41 s42 s43 s44 s45 s46 s47 s48 s49 s50 s51 s52 s53 s54 s55 s56 s57 s58 s59 s60 s61 s62 s63 s64 s65 s66 s67 s68 s69 s70 s71 s72 s73 s74 s75 s76 s77 s78 s79 s80 s81 s82 s83 s84 s85 s86 s87 s88 s89 s90 s91 s92 s93 s94 s95 s96 s97 s98 s99 s100 s101 s102 s103 s104 s105 s106 s107 s108 s109 s110 s111 s112 s113 s114 s115 s116 s117 s118 s119 s120 s121 s122 s123 s124 s125 s126 s127 s128 s129 s130 s131 s132 s133 s134 s135 s136 s137 s138 s139 s140 s141 s142 s143 s144 s145 s146 s147 s148 s149 s150 s151 s152 s153 s154 s155 s156 s157 s158 s159 s160 s161 s162 s163 s164 s165 s166 s167 s168 s169 s170 s171 s172 s173 s174 s175 s176 s177 s178 s179 s180 s181 s182 s183 s184 s185 s186 s187 s188 s189 s190 s191 s192 s193 s194 s195 s196 s197 s198 s199 s200 s201 s202 s203 s204 s205 s206 s207 s208 s209 s210 s211 s212 s213 s214 s215 s216 : Value}
  (hRV : RX V I b5 b6 b9 b11 b13 gF stop g r b ne ce np cp E P bz oz cap zs) (hIV : ∀ k, I k → ¬ FO k ∧ k ≠ gi) (hri : RI V X gF gi FO n0 F) (hmz : zs.length = mz) (hgi : gi < V.heap.size) (hFg : ¬ FO gi) (hFl : ∀ k, FO k → k < V.heap.size)
  (hQ : ∀ (A : Array Value) (D2 : Nat) (Z : World), A[6]? = some (.pointer (some ⟨b6, 0, none⟩)) → Fb X Z (fun k => k = gi ∨ k = b6) → Cell1B Z b6 (.bool true) 4 → X.heap.size ≤ D2 → Z.heap[D2]? = some (.deferred (some [])) → Q .ret { tmps := A, defers := { target := .collected D2, args := #[] } :: ds } Z) :
  (nthC 17 ((Tryz.f4).body.getD .skip)).wpIn Fence.wide 9 Tryz.prog Q { tmps := #[s0, s1, s2, s3, s4, s5, .pointer (some ⟨b6, 0, none⟩), s7, s8, .pointer (some ⟨b9, 0, none⟩), s10, .pointer (some ⟨b11, 0, none⟩), s12, .pointer (some ⟨b13, 0, none⟩), s14, s15, .pointer (some ⟨gi, 0, none⟩), s17, s18, s19, s20, s21, s22, s23, s24, s25, s26, s27, s28, s29, s30, s31, s32, s33, s34, s35, s36, s37, s38, s39, s40, s41, s42, s43, s44, s45, s46, s47, s48, s49, s50, s51, s52, s53, s54, s55, s56, s57, s58, s59, s60, s61, s62, s63, s64, s65, s66, s67, s68, s69, s70, s71, s72, s73, s74, s75, s76, s77, s78, s79, s80, s81, s82, s83, s84, s85, s86, s87, s88, s89, s90, s91, s92, s93, s94, s95, s96, s97, s98, s99, s100, s101, s102, s103, s104, s105, s106, s107, s108, s109, s110, s111, s112, s113, s114, s115, s116, s117, s118, s119, s120, s121, s122, s123, s124, s125, s126, s127, s128, s129, s130, s131, s132, s133, s134, s135, s136, s137, s138, s139, s140, s141, s142, s143, s144, s145, s146, s147, s148, s149, s150, s151, s152, s153, s154, s155, s156, s157, s158, s159, s160, s161, s162, s163, s164, s165, s166, s167, s168, s169, s170, s171, s172, s173, s174, s175, s176, s177, s178, s179, s180, s181, s182, s183, s184, s185, s186, s187, s188, s189, s190, s191, s192, s193, s194, s195, s196, s197, s198, s199, s200, s201, s202, s203, s204, s205, s206, s207, s208, s209, s210, s211, s212, s213, s214, s215, s216], defers := ds } X := by
 have HQ := Lib.hid hQ
 have HRV := Lib.hid hRV
 have HIV := Lib.hid hIV
 have hVX : V.heap.size ≤ X.heap.size := hri.fb.size
 have hmx : Tryz.prog.follows .mixedOrders = true := by kernel_rfl
 have nc := hri.i_.cell
 have nf := hri.i_.fz
 have hri1 : RI V (X.setCell ⟨gi, 0, none⟩ (.int .i64 0)) gF gi FO 0 F := hri.seti (m := 0) hgi hFg
 have hRx1 := hri1.rx hRV hIV
 have pc := hRx1.c9.cell
 obtain ⟨V1, hV1⟩ : ∃ V1, V1 = X.setCell ⟨gi, 0, none⟩ (.int .i64 0) := ⟨_, rfl⟩
 have sV1 : V1.heap.size = X.heap.size := by rw [hV1, World.size_setCell]
 have fX1 : Fb X V1 (fun k => k = gi) := by rw [hV1]; exact Fb.set1 (O := fun k => k = gi) rfl _
 obtain ⟨V2, hV2, bV2, sV2, cc⟩ := new1 V1 (.pointer (some ⟨g, 0, none⟩)) 58
 have HV2 : Hid (V2 = (X.setCell ⟨gi, 0, none⟩ (.int .i64 0)).alloc (.cells #[.pointer (some ⟨g, 0, none⟩)] 58)) := hV1 ▸ hV2
 rw [← hV1] at hri1 hRx1
 have HRi2 := Lib.hid (hri1.later bV2)
 have HX2 := Lib.hid (hRx1.later bV2)
 have HF1 := Lib.hid (show Fb X V2 (fun k => k = gi) from fX1.trans (Fb.of_below bV2))
 have HC := Lib.hid cc
 have hs2 : V2.heap.size = X.heap.size + 1 := by omega
 have hgc : (X.setCell ⟨gi, 0, none⟩ (.int .i64 0)).heap.size = X.heap.size := by rw [World.size_setCell]
 have HFl := Lib.hid hFl
 rw [sV1] at cc HC
 clear hQ hRV hIV hri hri1 hRx1 hV1 hV2 bV2 sV2 cc fX1 hFl
 show Code.wpIn _ _ _ (Code.seq _ _) _ _ _
 gi_wp2_with fail
 refine ⟨trivial, ?_⟩
 refine (callsIn_wide.2 (all5_any (g := g))).mono ?_
 rintro z W7 ⟨rfl, rfl⟩
 clear nc nf pc
 gi_wp2_with fail
 rw [← HV2.out]
 try rw [hgc]
 clear HV2 hgc
 have hgV : g < V2.heap.size := (Array.getElem?_eq_some_iff.1 HX2.out.hk.box).1
 have hzs : zs ≠ [] := fun h => HX2.out.hL.some_ (by rw [h]; rfl)
 have hEn : E ≠ [] := by
  intro h
  have := HX2.out.hL.few
  rw [h] at this
  exact HX2.out.hL.some_ (List.eq_nil_of_length_eq_zero (by simpa using this))
 have hbV : b < V2.heap.size := World.block_lt_of_cell? _ _ (rd_cell HX2.out.hk.ents 0 (by rw [(rd_lens HX2.out.hk.ents).1]; exact List.length_pos_iff.2 hEn)).1
 have hgg : gi ≠ g := fun h => (HIV.out g HX2.out.ig).2 h.symm
 have hgb : gi ≠ b := fun h => (HIV.out b HX2.out.ib).2 h.symm
 have hmz17 : mz ≤ 131072 := by have h1 := HX2.out.hL.few; have h2 := HX2.out.hL.size; rw [kvL_len, hmz] at h1; omega
 refine range_e (M := Unit) (q := mz) (sl := 24) rfl HX2.out.hL HX2.out.hk HC.out hbV (fun st Z => Cell1B Z gi (.int .i64 (st.1.length : Int)) 3 ∧ Fb V2 Z (fun k => k = gi)) (fun _ _ => False) (fun _ k => k = gi) () (fun st Z h => h.2.size)
  (fun st Z k h e => by subst e; exact ⟨h.1.lt, ⟨hgg, hgb⟩, by omega, by omega⟩)
  (fun st Z Z' C h f hc hB => ⟨h.1.fb f (hc gi h.1.lt rfl), h.2.trans' f h.2.size (fun i hi ho => absurd (hB i ho) (by omega))⟩) (fun _ _ _ _ h _ _ _ => h.elim) (fun _ _ _ h _ => h.elim) ⟨HRi2.out.i_, Fb.refl _ _⟩ ?assign ?body ?fin
 case assign =>
  intro l' x Z K hok hK
  obtain ⟨vr, fam, vq, ts, seq, kind, vv, row, qual, val⟩ := x
  obtain ⟨ar, nr, cr, rfl⟩ := rd_slice hok.1
  obtain ⟨aq, nq, cq, rfl⟩ := rd_slice hok.2.1
  obtain ⟨av, nv, cv, rfl⟩ := rd_slice hok.2.2
  have h := hK _ ((Below.refl _ _).alloc (Nat.le_refl _) (.cells (EntD.mk (.slice ar nr cr) fam (.slice aq nq cq) ts seq kind (.slice av nv cv) row qual val).cells 40)) (EBox.new Z _)
  simp only [EntD.cells, List.setIfInBounds_toArray, List.set_cons_zero, List.set_cons_succ] at h ⊢
  have Hh := Lib.hid h
  clear hK hok h
  gi_wp2
  exact Hh.out
 case body =>
  rintro l' pre mm x Bx Z hr hl' ⟨hi, hfz⟩ hBx bx hyg
  simp only at hi hyg
  simp only [List.setIfInBounds_toArray, List.set_cons_zero, List.set_cons_succ]
  obtain ⟨n, hn⟩ : ∃ n, n = pre.length := ⟨_, rfl⟩
  rw [← hn] at hi
  have hrx := HX2.out.fb hfz (fun k hk e => (HIV.out k hk).2 e)
  obtain ⟨⟨kv, hkv, hkx, hvx⟩, hxo, hxc⟩ := hyg.1
  rw [← hn] at hkv
  have hnl : n < zs.length := by
   have := (List.getElem?_eq_some_iff.1 hkv).1
   rwa [kvL_len] at this
  obtain ⟨y, hy⟩ : ∃ y, zs[n]? = some y := ⟨_, List.getElem?_eq_getElem hnl⟩
  have hym : y ∈ zs := List.mem_of_getElem? hy
  have hsame : EntD.Same x y := by
   have e := kvL_at hy
   rw [hkv] at e
   cases e
   exact same_key hxc (hrx.ck y hym) hkx hvx
  have hnm : n < mz := by rw [← hmz]; exact hnl
  have nc := hi.cell
  have wc : Z.cell? ⟨b11, 0, none⟩ = some (.slice (some ⟨bz, oz, none⟩) mz cap) := by have := hrx.c11.cell; rw [hmz] at this; exact this
  have hcs : ∀ (j : Nat) u, y.cells.toList[j]? = some u → Z.cell? ⟨bz, oz + n * 7 + j, none⟩ = some u := by
   rcases hrx.hr.at_ with k | ⟨b', o', e', hc'⟩
   ·exact absurd k hzs
   ·cases e'
    exact hc' n y hy
  have hyo : EntD.Ok Z y := hrx.hr.ok y hym
  have HSe : Hid (∀ Z', Below Z.heap.size Z Z' → Calls Tryz.prog 33 #[.agg #[x.vr, .int .i64 x.fam, x.vq, .int .i64 x.ts, .int .i64 x.seq, .int .i64 x.kind, x.vv], .agg #[y.vr, .int .i64 y.fam, y.vq, .int .i64 y.ts, .int .i64 y.seq, .int .i64 y.kind, y.vv]] Z' fun r w' => r = .returned (.bool true) ∧ Below Z'.heap.size Z' w') := fun Z' b => by
   refine (se_any (hxo.later b) (hyo.later b)).mono ?_
   rintro r w' ⟨rfl, hb⟩
   rw [decide_eq_true hsame]
   exact ⟨rfl, hb⟩
  obtain ⟨c0, c1, c2', c3, c4, c5, c6⟩ := (⟨bx.vr, bx.fam, bx.vq, bx.ts, bx.seq, bx.kind, bx.vv⟩ : _ ∧ _ ∧ _ ∧ _ ∧ _ ∧ _ ∧ _)
  have e0 := hcs 0 _ rfl
  have e1 := hcs 1 _ rfl
  have e2 := hcs 2 _ rfl
  have e3 := hcs 3 _ rfl
  have e4 := hcs 4 _ rfl
  have e5 := hcs 5 _ rfl
  have e6 := hcs 6 _ rfl
  simp only [Nat.add_zero] at e0
  have KS : Hid (∀ wx, Below Z.heap.size Z wx → wx.cell? ⟨gi, 0, none⟩ = some (.int .i64 (n : Int)) ∧ wx.cell? ⟨b11, 0, none⟩ = some (.slice (some ⟨bz, oz, none⟩) mz cap) ∧ wx.cell? ⟨Bx, 0, none⟩ = some x.vr ∧ wx.cell? ⟨Bx, 1, none⟩ = some (.int .i64 x.fam) ∧ wx.cell? ⟨Bx, 2, none⟩ = some x.vq ∧ wx.cell? ⟨Bx, 3, none⟩ = some (.int .i64 x.ts) ∧ wx.cell? ⟨Bx, 4, none⟩ = some (.int .i64 x.seq) ∧ wx.cell? ⟨Bx, 5, none⟩ = some (.int .i64 x.kind) ∧ wx.cell? ⟨Bx, 6, none⟩ = some x.vv ∧ wx.cell? ⟨bz, oz + n * 7, none⟩ = some y.vr ∧ wx.cell? ⟨bz, oz + n * 7 + 1, none⟩ = some (.int .i64 y.fam) ∧ wx.cell? ⟨bz, oz + n * 7 + 2, none⟩ = some y.vq ∧ wx.cell? ⟨bz, oz + n * 7 + 3, none⟩ = some (.int .i64 y.ts) ∧ wx.cell? ⟨bz, oz + n * 7 + 4, none⟩ = some (.int .i64 y.seq) ∧ wx.cell? ⟨bz, oz + n * 7 + 5, none⟩ = some (.int .i64 y.kind) ∧ wx.cell? ⟨bz, oz + n * 7 + 6, none⟩ = some y.vv) := fun wx b =>
   ⟨(b.cell (World.block_lt_of_cell? _ _ nc)).trans nc, (b.cell (World.block_lt_of_cell? _ _ wc)).trans wc, (b.cell (World.block_lt_of_cell? _ _ c0)).trans c0, (b.cell (World.block_lt_of_cell? _ _ c1)).trans c1, (b.cell (World.block_lt_of_cell? _ _ c2')).trans c2', (b.cell (World.block_lt_of_cell? _ _ c3)).trans c3, (b.cell (World.block_lt_of_cell? _ _ c4)).trans c4, (b.cell (World.block_lt_of_cell? _ _ c5)).trans c5, (b.cell (World.block_lt_of_cell? _ _ c6)).trans c6, (b.cell (World.block_lt_of_cell? _ _ e0)).trans e0, (b.cell (World.block_lt_of_cell? _ _ e1)).trans e1, (b.cell (World.block_lt_of_cell? _ _ e2)).trans e2, (b.cell (World.block_lt_of_cell? _ _ e3)).trans e3, (b.cell (World.block_lt_of_cell? _ _ e4)).trans e4, (b.cell (World.block_lt_of_cell? _ _ e5)).trans e5, (b.cell (World.block_lt_of_cell? _ _ e6)).trans e6⟩
  have HEnd : Hid (∀ Z2, Below Z.heap.size Z Z2 → Cell1B Z2 gi (.int .i64 (n : Int)) 3 ∧ (pre.length ≠ mz ∧ RdF (fun (st : List EntD × Unit) Z => Cell1B Z gi (.int .i64 (st.1.length : Int)) 3 ∧ Fb V2 Z (fun k => k = gi)) (fun _ k => k = gi) xbE (fun k => k = gi) pre x Z (Z2.setCell ⟨gi, 0, none⟩ (.int .i64 ((n : Int) + 1))))) := fun Z2 b2 => by
   have h2 := hi.later b2
   refine ⟨h2, by omega, (), ⟨?_, ?_⟩, ?_, fun k h => .inl h⟩
   ·have := h2.set (.int .i64 ((n : Int) + 1))
    rw [List.length_append, ← hn]
    exact this
   ·exact (hfz.trans (Fb.of_below b2)).trans (Fb.set1 (O := fun k => k = gi) rfl _)
   ·exact (Fb.of_below b2).trans (Fb.set1 (O := fun k => k = gi ∨ xbE x k) (.inl rfl) _)
  have HWn : Hid (wrap64 ((n : Int) + 1) = (n : Int) + 1 ∧ IntKind.i64.wrap ((n : Int) + 1) = (n : Int) + 1) := ⟨wrap64I5 _ (by omega) (by omega), wrapI5 _ (by omega) (by omega)⟩
  unfold EntD.cells
  clear hl' hkv hkx hvx hxo hxc hy hym hsame hcs hyo bx hyg hi hrx hn hr c0 c1 c2' c3 c4 c5 c6 e0 e1 e2 e3 e4 e5 e6 wc nc hfz
  gi_wp2_with fail
  refine wpIn_eq3 ?Fr0 ?r1 ?r2
  case r1 => exact reads_r46 hnm KS.out HSe.out
  case r2 =>
   intro Z2 hb2
   obtain ⟨hc2, he2⟩ := HEnd.out Z2 hb2
   have nc := hc2.cell
   have nf := hc2.fz
   have HE2 := Lib.hid he2
   have hwn := HWn.out.1
   have hwn2 := HWn.out.2
   clear KS HSe HEnd hc2 he2 hb2 HWn
   gi_wp2
   exact HE2.out
 case fin =>
  rintro D2 xs mm Z hD hcase hdf
  obtain ⟨h1, h2⟩ : Cell1B Z gi (.int .i64 (mz : Int)) 3 ∧ Fb V2 Z (fun k => k = gi) := by
   rcases hcase with ⟨⟨h1, -⟩, h⟩ | ⟨-, h⟩
   ·have e : xs.length = mz := by rw [h1, kvL_len, hmz]
    rw [← e]
    exact h
   ·exact h.elim
  rename_i K1 hK1
  refine hK1 _ _ ?_
  clear hK1 hcase
  have hrx := HX2.out.fb h2 (fun k hk e => (HIV.out k hk).2 e)
  have nc := h1.cell
  have wc : Z.cell? ⟨b11, 0, none⟩ = some (.slice (some ⟨bz, oz, none⟩) mz cap) := by have := hrx.c11.cell; rw [hmz] at this; exact this
  have fc := hrx.c13.cell
  have hfu : FuB Z gF F := HRi2.out.fu.fb h2 (fun k e hF => by
   subst e
   rcases HRi2.out.new k hF with h | h
   ·exact hFg h
   ·omega)
  have HWh := Lib.hid (whole_any hfu)
  have HF2 := Lib.hid h2
  have HC6 := Lib.hid hrx.c6
  have HDf := Lib.hid (And.intro hD hdf)
  clear hrx h1 h2 hfu hD hdf
  gi_wp2_with fail
  refine ⟨trivial, ?_⟩
  refine (callsIn_wide.2 HWh.out).mono ?_
  rintro z Z2 ⟨rfl, b2⟩
  have hc6 := HC6.out.later b2
  have rc := hc6.cell
  have rf := hc6.fz
  have hD1 := HDf.out.1
  have hb6 : b6 < V.heap.size := HRV.out.c6.lt
  have HEnd : Hid (Fb X (Z2.setCell ⟨b6, 0, none⟩ (.bool true)) (fun k => k = gi ∨ k = b6) ∧ Cell1B (Z2.setCell ⟨b6, 0, none⟩ (.bool true)) b6 (.bool true) 4 ∧ X.heap.size ≤ D2 ∧ (Z2.setCell ⟨b6, 0, none⟩ (.bool true)).heap[D2]? = some (.deferred (some []))) := by
   refine ⟨?_, hc6.set _, by omega, ?_⟩
   ·have f1 : Fb X Z2 (fun k => k = gi ∨ k = b6) := (HF1.out.trans' HF2.out HF1.out.size (fun i _ h => h)).trans (Fb.of_below b2) |>.mono (fun i _ h => .inl h)
    exact f1.trans (Fb.set1 (O := fun k => k = gi ∨ k = b6) (.inr rfl) _)
   ·have h3 : Z2.heap[D2]? = some (.deferred (some [])) := (b2.block D2 (Array.getElem?_eq_some_iff.1 HDf.out.2).1).trans HDf.out.2
    exact (Below.heap_setCell _ _ _ _ (by show _ ≠ b6; omega)).trans h3
  clear nc wc fc hc6 HWh HC6 b2 hD1
  gi_wp2
  exact HQ.out _ _ _ rfl HEnd.out.1 HEnd.out.2.1 HEnd.out.2.2.1 HEnd.out.2.2.2
end Go.Proofs.YtchebhafabhabaaGreatDoor

namespace Go.Proofs.YtchebhafabhabaaGreatDoor
open Go.RowKit Go.Shelf
set_option linter.unusedVariables false

theorem skA_self {zs : List EntD} (hu : Up [] (kvL zs)) {k : Nat} {q : EntD} (hq : zs[k]? = some q) : SkA (kvL zs) (keyL q) k := by
 have e := kvL_at hq
 have hk : k < (kvL zs).length := (List.getElem?_eq_some_iff.1 e).1
 refine ⟨by omega, ?_, fun x kv hx hle => up_hi hu e (by rw [ordC_self]; exact Int.le_refl _) x kv hx hle⟩
 intro x kv hx hlt
 obtain ⟨p, hp⟩ : ∃ p, (kvL zs)[k - 1]? = some p := ⟨_, List.getElem?_eq_getElem (by omega)⟩
 have h1 := up_at hu e
 have h2 : lastK ((kvL zs).take k) = p.1 := by
  have : ((kvL zs).take k) = ((kvL zs).take (k - 1)) ++ [p] := by
   conv => lhs; rw [show k = (k - 1) + 1 by omega]
   rw [List.take_add_one, hp]
   rfl
  rw [this]
  exact lastK_snoc _ _
 rw [h2] at h1
 exact up_lo hu hp h1 x kv hx (by omega)
theorem E3.later94 {w w' : World} {D : EntD} (h : E3 w D) (b : Below w.heap.size w w') : E3 w' D := by
 obtain ⟨⟨a1, n1, c1, x1, e1, l1, o1⟩, ⟨a2, n2, c2, x2, e2, l2, o2⟩, ⟨a3, n3, c3, x3, e3, l3, o3⟩, h4, h5, h6⟩ := h
 exact ⟨⟨a1, n1, c1, x1, e1, l1, o1.later b⟩, ⟨a2, n2, c2, x2, e2, l2, o2.later b⟩, ⟨a3, n3, c3, x3, e3, l3, o3.later b⟩, h4, h5, h6⟩
theorem loop_grow {V X wr Y3 Z : World} {gF gi n0 : Nat} {FO F F' : Nat → Prop} {D : EntD} (h : RI V Y3 gF gi FO n0 F') (f' : Fb X wr F) (hF' : ∀ k, F' k → F k ∨ X.heap.size ≤ k) (b3 : Below wr.heap.size wr Y3) (hs : V.heap.size + 2 ≤ X.heap.size) (hgi : gi < V.heap.size) (hFg : ¬ FO gi) (hf : FuB Z gF (fun k => F' k ∨ D.blk k ∨ (Y3.heap.size ≤ k ∧ k < Z.heap.size))) (f : Fb Y3 Z (fun k => F' k ∨ D.blk k)) (hx : ∀ k, D.blk k → wr.heap.size ≤ k) :
  ∃ F'', RI V Z gF gi FO n0 F'' ∧ Fb X Z F ∧ (∀ k, F'' k → F k ∨ X.heap.size ≤ k) := by
 have s1 := f'.size
 have s2 := b3.size
 refine ⟨_, h.grow (by omega) hf f (fun k hk => by have := hx k hk; omega) hgi hFg, (f'.trans (Fb.of_below b3)).trans' f (by omega) (fun i hi ho => ?_), fun k hk => ?_⟩
 ·rcases ho with ho | ho
  ·rcases hF' i ho with h | h
   ·exact h
   ·omega
  ·have := hx i ho; omega
 ·rcases hk with hk | hk | hk
  ·exact hF' k hk
  ·have := hx k hk; exact .inr (by omega)
  ·exact .inr (by omega)
set_option maxRecDepth 100000 in
set_option maxHeartbeats 8000000 in
theorem reads_loop {V X : World} {gF gi n0 b5 b6 b9 b11 b13 g r b ne ce np cp bz oz cap mz : Nat} {FO F I : Nat → Prop} {stop : Int} {E P : List Nat} {zs : List EntD} {ds : List Deferred} {Q : Exit → Act → World → Prop} {s0 s1 s2 s3 s4 s5 s7 s8 s10 s12 s14 s15 s17 s18 s19 s20 s21 s22 s23 s24 s25 s26 s27 s28 s29 s30 s31 s32 s33 s34 s35 s36 s37 s38 s39 s40 s41 s42 s43 s44 s45 s46 s47 s48 s49 s50 s51 s52 s53 s54 s55 s56 s57 s58 s59 s60 s61 s62 s63 s64 s65 s66 s67 s68 s69 s70 s71 s72 s73 s74 s75 s76 s77 s78 s79 s80 s81 s82 s83 s84 s85 s86 s87 s88 s89 s90 s91 s92 s93 s94 s95 s96 s97 s98 s99 s100 s101 s102 s103 s104 s105 s106 s107 s108 s109 s110 s111 s112 s113 s114 s115 s116 s117 s118 s119 s120 s121 s122 s123 s124 s125 s126 s127 s128 s129 s130 s131 s132 s133 s134 s135 s136 s137 s138 s139 s140 s141 s142 s143 s144 s145 s146 s147 s148 s149 s150 s151 s152 s153 s154 s155 s156 s157 s158 s159 s160 s161 s162 s163 s164 s165 s166 s167 s168 s169 s170 s171 s172 s173 s174 s175 s176 s177 s178 s179 s180 s181 s182 s183 s184 s185 s186 s187 s188 s189 s190 s191 s192 s193 s194 s195 s196 s197 s198 s199 s200 s201 s202 s203 s204 s205 s206 s207 s208 s209 s210 s211 s212 s213 s214 s215 s216 : Value}
  (hRV : RX V I b5 b6 b9 b11 b13 gF stop g r b ne ce np cp E P bz oz cap zs) (hIV : ∀ k, I k → ¬ FO k ∧ k ≠ gi) (hri : RI V X gF gi FO n0 F) (hXs : V.heap.size + 2 ≤ X.heap.size) (hmz : zs.length = mz) (hgi : gi < V.heap.size) (hFg : ¬ FO gi) (hFl : ∀ k, FO k → k < V.heap.size)
  (hQ : ∀ (A : Array Value) (D2 : Nat) (Z : World), A[6]? = some (.pointer (some ⟨b6, 0, none⟩)) → Fb X Z (fun k => F k ∨ k = gi ∨ k = b6) → Cell1B Z b6 (.bool true) 4 → X.heap.size ≤ D2 → Z.heap[D2]? = some (.deferred (some [])) → Q .ret { tmps := A, defers := { target := .collected D2, args := #[] } :: ds } Z) :
  (nthC 16 ((Tryz.f4).body.getD .skip)).wpIn Fence.wide 9 Tryz.prog Q { tmps := #[s0, s1, s2, s3, s4, s5, .pointer (some ⟨b6, 0, none⟩), s7, s8, .pointer (some ⟨b9, 0, none⟩), s10, .pointer (some ⟨b11, 0, none⟩), s12, .pointer (some ⟨b13, 0, none⟩), s14, s15, .pointer (some ⟨gi, 0, none⟩), s17, s18, s19, s20, s21, s22, s23, s24, s25, s26, s27, s28, s29, s30, s31, s32, s33, s34, s35, s36, s37, s38, s39, s40, s41, s42, s43, s44, s45, s46, s47, s48, s49, s50, s51, s52, s53, s54, s55, s56, s57, s58, s59, s60, s61, s62, s63, s64, s65, s66, s67, s68, s69, s70, s71, s72, s73, s74, s75, s76, s77, s78, s79, s80, s81, s82, s83, s84, s85, s86, s87, s88, s89, s90, s91, s92, s93, s94, s95, s96, s97, s98, s99, s100, s101, s102, s103, s104, s105, s106, s107, s108, s109, s110, s111, s112, s113, s114, s115, s116, s117, s118, s119, s120, s121, s122, s123, s124, s125, s126, s127, s128, s129, s130, s131, s132, s133, s134, s135, s136, s137, s138, s139, s140, s141, s142, s143, s144, s145, s146, s147, s148, s149, s150, s151, s152, s153, s154, s155, s156, s157, s158, s159, s160, s161, s162, s163, s164, s165, s166, s167, s168, s169, s170, s171, s172, s173, s174, s175, s176, s177, s178, s179, s180, s181, s182, s183, s184, s185, s186, s187, s188, s189, s190, s191, s192, s193, s194, s195, s196, s197, s198, s199, s200, s201, s202, s203, s204, s205, s206, s207, s208, s209, s210, s211, s212, s213, s214, s215, s216], defers := ds } X := by
 have HQ := Lib.hid hQ
 have HRV := Lib.hid hRV
 have HIV := Lib.hid hIV
 have HRi0 := Lib.hid hri
 have HFl := Lib.hid hFl
 have hmx : Tryz.prog.follows .mixedOrders = true := by kernel_rfl
 have hzs : zs ≠ [] := fun h => hRV.hL.some_ (by rw [h]; rfl)
 have hmz17 : mz ≤ 131072 := by have h1 := hRV.hL.few; have h2 := hRV.hL.size; rw [kvL_len, hmz] at h1; omega
 clear hQ hRV hIV hri hFl
 show Code.wpIn _ _ _ (Code.seq _ _) _ _ _
 refine wpIn_seq_k (fun K0 hK0 => ?_)
 have HK0 := Lib.hid hK0
 clear hK0
 gi_wp2
 gi_loopw [19, 20, 21, 22, 23] (fun jv _ _ _ _ wr => ∃ j : Int, -1 ≤ j ∧ j ≤ (mz : Int) + 1 ∧ jv = .int .i64 j ∧ Hid (∃ F', RI V wr gF gi FO n0 F' ∧ Fb X wr F ∧ (∀ k, F' k → F k ∨ X.heap.size ≤ k))) (fun jv _ _ _ _ _ => ((mz : Int) + 1 - intOf jv).toNat)
 case atStart => exact ⟨-1, by omega, by omega, rfl, F, HRi0.out, Fb.refl _ _, fun k h => .inl h⟩
 case round =>
  obtain ⟨j, hj1, hj2, rfl, HU⟩ := hrel
  obtain ⟨F', hr', f', hF'⟩ := HU.out
  have hRx := hr'.rx HRV.out HIV.out
  have wc : wr.cell? ⟨b11, 0, none⟩ = some (.slice (some ⟨bz, oz, none⟩) mz cap) := by have := hRx.c11.cell; rw [hmz] at this; exact this
  have pc := hRx.c9.cell
  by_cases hend : j = (mz : Int) + 1
  ·subst hend
   have hle : ¬ ((mz : Int) + 1 ≤ (mz : Int)) := by omega
   have HLast : Hid (∀ (A0 : Array Value → Prop), True) := fun _ => trivial
   clear pc HU hRx
   gi_wp2
   refine HK0.out _ _ ?_
   refine reads_last HRV.out HIV.out hr' hmz hgi hFg HFl.out ?_
   intro A D2 Z hA hf hc hD hdf
   have s1 := f'.size
   refine HQ.out A D2 Z hA ((f'.mono (fun i _ h => .inl h)).trans' hf s1 (fun i _ h => .inr h)) hc (by omega) hdf
  have hle : j ≤ (mz : Int) := by omega
  by_cases hneg : j = -1
  ·subst hneg
   have HAt := Lib.hid (atB_ap hRx.hL hRx.hk (-1))
   have HRi := Lib.hid hr'
   have HFw := Lib.hid (And.intro f' hF')
   clear hRx hr' f' hF'
   gi_wp2_with fail
   refine ⟨trivial, ?_⟩
   refine (callsIn_wide.2 HAt.out).mono ?_
   rintro z Y1 ⟨b1, h | h⟩
   case inr =>
    obtain ⟨h0, kv, -, hkv, -⟩ := h
    have := (List.getElem?_eq_some_iff.1 hkv).1
    rw [kvL_len, hmz] at this
    omega
   obtain ⟨-, rfl⟩ := h
   have ebY := EBox.new Y1 (EntD.mk (.slice none 0 0) 0 (.slice none 0 0) 0 0 0 (.slice none 0 0) [] [] [])
   have bY := (Below.refl Y1.heap.size Y1).alloc (Nat.le_refl _) (.cells (EntD.mk (.slice none 0 0) 0 (.slice none 0 0) 0 0 0 (.slice none 0 0) [] [] []).cells 40)
   simp only [EntD.cells] at ebY bY
   obtain ⟨Y2, hY2⟩ : ∃ Y2, Y2 = Y1.alloc (.cells #[.slice none 0 0, .int .i64 0, .slice none 0 0, .int .i64 0, .int .i64 0, .int .i64 0, .slice none 0 0] 40) := ⟨_, rfl⟩
   rw [← hY2] at ebY bY
   have bU := b1.trans (bY.mono b1.size)
   have HBU := Lib.hid bU
   have wc : Y2.cell? ⟨b11, 0, none⟩ = some (.slice (some ⟨bz, oz, none⟩) mz cap) := by have := ((HRi.out.later bU).rx HRV.out HIV.out).c11.cell; rw [hmz] at this; exact this
   have wc0 : (Y1.alloc (.cells #[.slice none 0 0, .int .i64 0, .slice none 0 0, .int .i64 0, .int .i64 0, .int .i64 0, .slice none 0 0] 40)).cell? ⟨b11, 0, none⟩ = some (.slice (some ⟨bz, oz, none⟩) mz cap) := by rw [← hY2]; exact wc
   obtain ⟨c0, c1, c2', c3, c4, c5, c6⟩ := ebY.cells7
   have HSe : Hid (Calls Tryz.prog 33 #[.agg #[.slice none 0 0, .int .i64 0, .slice none 0 0, .int .i64 0, .int .i64 0, .int .i64 0, .slice none 0 0], .agg #[.slice none 0 0, .int .i64 0, .slice none 0 0, .int .i64 0, .int .i64 0, .int .i64 0, .slice none 0 0]] Y2 fun r w' => r = .returned (.bool true) ∧ Below Y2.heap.size Y2 w') := by
    refine (se_any (a := EntD.mk (.slice none 0 0) 0 (.slice none 0 0) 0 0 0 (.slice none 0 0) [] [] []) (b := EntD.mk (.slice none 0 0) 0 (.slice none 0 0) 0 0 0 (.slice none 0 0) [] [] []) ⟨Rd.nil _, Rd.nil _, Rd.nil _⟩ ⟨Rd.nil _, Rd.nil _, Rd.nil _⟩).mono ?_
    rintro r w' ⟨rfl, hb⟩
    exact ⟨rfl, hb⟩
   have HY2 := Lib.hid hY2
   have HYc : Hid ((Y1.alloc (.cells #[.slice none 0 0, .int .i64 0, .slice none 0 0, .int .i64 0, .int .i64 0, .int .i64 0, .slice none 0 0] 40)) = Y2) := hY2.symm
   rw [hY2] at c0 c1 c2' c3 c4 c5 c6
   clear b1 ebY bY bU hY2 HAt wc
   gi_wp2_with fail
   refine ⟨trivial, ?_⟩
   rw [HYc.out]
   refine (callsIn_wide.2 HSe.out).mono ?_
   rintro z Y3 ⟨rfl, b3⟩
   have bW3 : Below wr.heap.size wr Y3 := HBU.out.trans (b3.mono HBU.out.size)
   have HNx : Hid (∃ F', RI V Y3 gF gi FO n0 F' ∧ Fb X Y3 F ∧ (∀ k, F' k → F k ∨ X.heap.size ≤ k)) := ⟨F', HRi.out.later bW3, HFw.out.1.trans (Fb.of_below bW3), HFw.out.2⟩
   clear c0 c1 c2' c3 c4 c5 c6 wc0 HSe b3 bW3 HBU HYc HY2 HFw HRi
   gi_wp2
   go_roundw
   case rel => exact ⟨(-1) + 1, by omega, by omega, by go_num, HNx.out⟩
   case measure => simp [intOf] <;> omega

  by_cases hlast : j = (mz : Int)
  ·subst hlast
   have hn0 : ¬ ((mz : Int) < 0) := by omega
   have HAt := Lib.hid (atB_ap hRx.hL hRx.hk ((mz : Int)))
   have HRi := Lib.hid hr'
   have HFw := Lib.hid (And.intro f' hF')
   clear hRx hr' f' hF'
   gi_wp2_with fail
   refine ⟨trivial, ?_⟩
   refine (callsIn_wide.2 HAt.out).mono ?_
   rintro z Y1 ⟨b1, h | h⟩
   case inr =>
    obtain ⟨h0, kv, -, hkv, -⟩ := h
    have := (List.getElem?_eq_some_iff.1 hkv).1
    rw [kvL_len, hmz] at this
    omega
   obtain ⟨-, rfl⟩ := h
   have ebY := EBox.new Y1 (EntD.mk (.slice none 0 0) 0 (.slice none 0 0) 0 0 0 (.slice none 0 0) [] [] [])
   have bY := (Below.refl Y1.heap.size Y1).alloc (Nat.le_refl _) (.cells (EntD.mk (.slice none 0 0) 0 (.slice none 0 0) 0 0 0 (.slice none 0 0) [] [] []).cells 40)
   simp only [EntD.cells] at ebY bY
   obtain ⟨Y2, hY2⟩ : ∃ Y2, Y2 = Y1.alloc (.cells #[.slice none 0 0, .int .i64 0, .slice none 0 0, .int .i64 0, .int .i64 0, .int .i64 0, .slice none 0 0] 40) := ⟨_, rfl⟩
   rw [← hY2] at ebY bY
   have bU := b1.trans (bY.mono b1.size)
   have HBU := Lib.hid bU
   have wc : Y2.cell? ⟨b11, 0, none⟩ = some (.slice (some ⟨bz, oz, none⟩) mz cap) := by have := ((HRi.out.later bU).rx HRV.out HIV.out).c11.cell; rw [hmz] at this; exact this
   have wc0 : (Y1.alloc (.cells #[.slice none 0 0, .int .i64 0, .slice none 0 0, .int .i64 0, .int .i64 0, .int .i64 0, .slice none 0 0] 40)).cell? ⟨b11, 0, none⟩ = some (.slice (some ⟨bz, oz, none⟩) mz cap) := by rw [← hY2]; exact wc
   obtain ⟨c0, c1, c2', c3, c4, c5, c6⟩ := ebY.cells7
   have HSe : Hid (Calls Tryz.prog 33 #[.agg #[.slice none 0 0, .int .i64 0, .slice none 0 0, .int .i64 0, .int .i64 0, .int .i64 0, .slice none 0 0], .agg #[.slice none 0 0, .int .i64 0, .slice none 0 0, .int .i64 0, .int .i64 0, .int .i64 0, .slice none 0 0]] Y2 fun r w' => r = .returned (.bool true) ∧ Below Y2.heap.size Y2 w') := by
    refine (se_any (a := EntD.mk (.slice none 0 0) 0 (.slice none 0 0) 0 0 0 (.slice none 0 0) [] [] []) (b := EntD.mk (.slice none 0 0) 0 (.slice none 0 0) 0 0 0 (.slice none 0 0) [] [] []) ⟨Rd.nil _, Rd.nil _, Rd.nil _⟩ ⟨Rd.nil _, Rd.nil _, Rd.nil _⟩).mono ?_
    rintro r w' ⟨rfl, hb⟩
    exact ⟨rfl, hb⟩
   have HY2 := Lib.hid hY2
   have HYc : Hid ((Y1.alloc (.cells #[.slice none 0 0, .int .i64 0, .slice none 0 0, .int .i64 0, .int .i64 0, .int .i64 0, .slice none 0 0] 40)) = Y2) := hY2.symm
   rw [hY2] at c0 c1 c2' c3 c4 c5 c6
   clear b1 ebY bY bU hY2 HAt wc
   gi_wp2_with fail
   refine ⟨trivial, ?_⟩
   rw [HYc.out]
   refine (callsIn_wide.2 HSe.out).mono ?_
   rintro z Y3 ⟨rfl, b3⟩
   have bW3 : Below wr.heap.size wr Y3 := HBU.out.trans (b3.mono HBU.out.size)
   have HNx : Hid (∃ F', RI V Y3 gF gi FO n0 F' ∧ Fb X Y3 F ∧ (∀ k, F' k → F k ∨ X.heap.size ≤ k)) := ⟨F', HRi.out.later bW3, HFw.out.1.trans (Fb.of_below bW3), HFw.out.2⟩
   clear c0 c1 c2' c3 c4 c5 c6 wc0 HSe b3 bW3 HBU HYc HY2 HFw HRi
   gi_wp2
   go_roundw
   case rel => exact ⟨((mz : Int)) + 1, by omega, by omega, by go_num, HNx.out⟩
   case measure => simp [intOf] <;> omega

  obtain ⟨k, rfl⟩ : ∃ k : Nat, j = (k : Int) := ⟨j.toNat, by omega⟩
  have hkm : k < mz := by omega
  have hkn : ¬ ((k : Int) < 0) := by omega
  have hk0 : (0 : Int) ≤ (k : Int) := by omega
  have hkl : (k : Int) < (mz : Int) := by omega
  have hke : ¬ ((k : Int) = (mz : Int)) := by omega
  have hke2 : ¬ (k = mz) := by omega
  have hke3 : ((k : Int) == (mz : Int)) = false := by simp; omega
  have hke4 : (k == mz) = false := by simp; omega
  have HAt := Lib.hid (atB_ap hRx.hL hRx.hk (k : Int))
  have HRi := Lib.hid hr'
  have HFw := Lib.hid (And.intro f' hF')
  clear hRx hr' f' hF' hneg hlast hend
  gi_wp2_with fail
  refine ⟨trivial, ?_⟩
  refine (callsIn_wide.2 HAt.out).mono ?_
  rintro z Y1 ⟨b1, h | h⟩
  ·exact absurd ⟨by omega, by rw [kvL_len, hmz]; omega⟩ h.1
  obtain ⟨-, kv, y, hkv, rfl, yok, yc, yk, yv, yo1, yo2, yo3, yap⟩ := h
  have hkz : k < zs.length := by rw [hmz]; exact hkm
  obtain ⟨q, hq⟩ : ∃ q, zs[k]? = some q := ⟨_, List.getElem?_eq_getElem hkz⟩
  have hqm : q ∈ zs := List.mem_of_getElem? hq
  have hqc : checkS q = 0 := HRV.out.ck q hqm
  have hsame : EntD.Same y q := by
   have e := kvL_at hq
   rw [show ((k : Int)).toNat = k by omega, e] at hkv
   cases hkv
   exact same_key yc hqc yk yv
  have hyb : ∀ i, y.blk i → wr.heap.size ≤ i ∧ i < Y1.heap.size := fun i h => by
   rcases h with h | h | h
   ·exact yo1.2.lt i h
   ·exact yo2.2.lt i h
   ·exact yo3.2.lt i h
  have hE3 : E3 Y1 y := e3_of yc yo1 yo2 yo3 yap
  obtain ⟨vy, fy, vyq, ty, sy, dy, vyv, ry, qy, ly⟩ := y
  have hy0 := yok
  simp only [EntD.Ok] at hy0
  obtain ⟨ay, ky, cy, rfl⟩ := rd_slice hy0.1
  obtain ⟨ayq, kyq, cyq, rfl⟩ := rd_slice hy0.2.1
  obtain ⟨ayv, kyv, cyv, rfl⟩ := rd_slice hy0.2.2
  have ebY := EBox.new Y1 ⟨.slice ay ky cy, fy, .slice ayq kyq cyq, ty, sy, dy, .slice ayv kyv cyv, ry, qy, ly⟩
  have bY := (Below.refl Y1.heap.size Y1).alloc (Nat.le_refl _) (.cells (EntD.mk (.slice ay ky cy) fy (.slice ayq kyq cyq) ty sy dy (.slice ayv kyv cyv) ry qy ly).cells 40)
  simp only [EntD.cells] at ebY bY
  obtain ⟨Y2, hY2⟩ : ∃ Y2, Y2 = Y1.alloc (.cells #[.slice ay ky cy, .int .i64 fy, .slice ayq kyq cyq, .int .i64 ty, .int .i64 sy, .int .i64 dy, .slice ayv kyv cyv] 40) := ⟨_, rfl⟩
  rw [← hY2] at ebY bY
  have bU := b1.trans (bY.mono b1.size)
  have HRX : Hid (∀ wx, Below Y2.heap.size Y2 wx → RX wx I b5 b6 b9 b11 b13 gF stop g r b ne ce np cp E P bz oz cap zs) := fun wx bx => (HRi.out.later (bU.trans (bx.mono bU.size))).rx HRV.out HIV.out
  have hq2 : ∀ wx, Below Y2.heap.size Y2 wx → ∀ (j : Nat) u, q.cells.toList[j]? = some u → wx.cell? ⟨bz, oz + k * 7 + j, none⟩ = some u := fun wx bx => by
   rcases (HRX.out wx bx).hr.at_ with k' | ⟨b', o', e', hc'⟩
   ·exact absurd k' hzs
   ·cases e'
    exact hc' k q hq
  have KS : Hid (∀ wx, Below Y2.heap.size Y2 wx → wx.cell? ⟨b11, 0, none⟩ = some (.slice (some ⟨bz, oz, none⟩) mz cap) ∧ wx.cell? ⟨b9, 0, none⟩ = some (.pointer (some ⟨g, 0, none⟩)) ∧ (wx.cell? ⟨Y1.heap.size, 0, none⟩ = some (.slice ay ky cy) ∧ wx.cell? ⟨Y1.heap.size, 1, none⟩ = some (.int .i64 fy) ∧ wx.cell? ⟨Y1.heap.size, 2, none⟩ = some (.slice ayq kyq cyq) ∧ wx.cell? ⟨Y1.heap.size, 3, none⟩ = some (.int .i64 ty) ∧ wx.cell? ⟨Y1.heap.size, 4, none⟩ = some (.int .i64 sy) ∧ wx.cell? ⟨Y1.heap.size, 5, none⟩ = some (.int .i64 dy) ∧ wx.cell? ⟨Y1.heap.size, 6, none⟩ = some (.slice ayv kyv cyv)) ∧ (wx.cell? ⟨bz, oz + k * 7, none⟩ = some q.vr ∧ wx.cell? ⟨bz, oz + k * 7 + 1, none⟩ = some (.int .i64 q.fam) ∧ wx.cell? ⟨bz, oz + k * 7 + 2, none⟩ = some q.vq ∧ wx.cell? ⟨bz, oz + k * 7 + 3, none⟩ = some (.int .i64 q.ts) ∧ wx.cell? ⟨bz, oz + k * 7 + 4, none⟩ = some (.int .i64 q.seq) ∧ wx.cell? ⟨bz, oz + k * 7 + 5, none⟩ = some (.int .i64 q.kind) ∧ wx.cell? ⟨bz, oz + k * 7 + 6, none⟩ = some q.vv)) := fun wx bx => ⟨by have := (HRX.out wx bx).c11.cell; rw [hmz] at this; exact this, (HRX.out wx bx).c9.cell, (ebY.later bx).cells7, hq2 wx bx 0 _ rfl, hq2 wx bx 1 _ rfl, hq2 wx bx 2 _ rfl, hq2 wx bx 3 _ rfl, hq2 wx bx 4 _ rfl, hq2 wx bx 5 _ rfl, hq2 wx bx 6 _ rfl⟩
  have HSe : Hid (∀ Z, Below Y2.heap.size Y2 Z → Calls Tryz.prog 33 #[.agg #[.slice ay ky cy, .int .i64 fy, .slice ayq kyq cyq, .int .i64 ty, .int .i64 sy, .int .i64 dy, .slice ayv kyv cyv], .agg #[q.vr, .int .i64 q.fam, q.vq, .int .i64 q.ts, .int .i64 q.seq, .int .i64 q.kind, q.vv]] Z fun r w' => r = .returned (.bool true) ∧ Below Z.heap.size Z w') := fun Z bz' => by
   refine (se_any ((yok.later bY).later bz') ((HRX.out Z bz').hr.ok q hqm)).mono ?_
   rintro r w' ⟨rfl, hb⟩
   rw [decide_eq_true hsame]
   exact ⟨rfl, hb⟩
  have HKey : Hid (Calls Tryz.prog 35 #[.agg #[q.vr, .int .i64 q.fam, q.vq, .int .i64 q.ts, .int .i64 q.seq, .int .i64 q.kind, q.vv]] Y2 fun r w' => ∃ a m c, r = .returned (.tuple #[.slice a m c, .int .i64 0]) ∧ Own w' Y2.heap.size (.slice a m c) m (keyL q) ∧ Below Y2.heap.size Y2 w') := refKey_ok ((HRX.out Y2 (Below.refl _ _)).hr.ok q hqm) hqc
  have HSelf : Hid (SkA (kvL zs) (keyL q) k) := skA_self HRV.out.hL.up hq
  have HKb : Hid (Bys (keyL q) ∧ (keyL q).length ≤ 2000) := by
   have hok := (HRX.out Y2 (Below.refl _ _)).hr.ok q hqm
   exact ⟨keyL_bys hok.1.1 hok.2.1.1 hqc, keyL_len hqc⟩
  have HY2 := Lib.hid hY2
  have HYs := Lib.hid (And.intro hyb (And.intro hE3 bY))
  have HBU := Lib.hid bU
  obtain ⟨d0, d1, ⟨d2, d3, d4, d5, d6, d7, d8⟩, ⟨d9, d10, d11, d12, d13, d14, d15⟩⟩ := KS.out _ (Below.refl _ _)
  have wc0 : (Y1.alloc (.cells #[.slice ay ky cy, .int .i64 fy, .slice ayq kyq cyq, .int .i64 ty, .int .i64 sy, .int .i64 dy, .slice ayv kyv cyv] 40)).cell? ⟨b11, 0, none⟩ = some (.slice (some ⟨bz, oz, none⟩) mz cap) := by rw [← hY2]; exact d0
  clear hkv yok yc yk yv b1 hy0 ebY bY hY2 bU hq2 hsame hq hqm hqc HAt wc pc yo1 yo2 yo3 yap hE3 hyb d1 d2 d3 d4 d5 d6 d7 d8 HU
  unfold EntD.cells
  rw [HY2.out] at d9 d10 d11 d12 d13 d14 d15
  gi_wp2_with fail
  rw [← HY2.out]
  refine ⟨trivial, ?_⟩
  refine (callsIn_wide.2 HKey.out).mono ?_
  rintro z Y3 ⟨ak, km, kc, rfl, kown, b3⟩
  have hrk : Rd Y3 (.slice ak km kc) (keyL q) := kown.rd HKb.out.1 (by have := kown.1; have := HKb.out.2; omega)
  have HSk : Hid (∀ Z, Below Y3.heap.size Y3 Z → Calls Tryz.prog 30 #[.pointer (some ⟨g, 0, none⟩), .slice ak km kc] Z fun e w' => e = .returned (.int .i64 (k : Int)) ∧ Below Z.heap.size Z w') := fun Z bz' => by
   have hx := HRX.out Z (b3.trans (bz'.mono b3.size))
   refine (seek_any hx.hL hx.hk (hrk.later bz')).mono ?_
   rintro e w' ⟨⟨n', rfl, hs⟩, hb⟩
   rw [skA_one hs HSelf.out]
   exact ⟨rfl, hb⟩
  have HB3 := Lib.hid b3
  have D0 : Below Y3.heap.size Y3 Y3.drew := (Below.refl _ _).drew
  have E0 : Below Y2.heap.size Y2 Y3.drew := b3.trans (D0.mono b3.size)
  clear d0 d9 d10 d11 d12 d13 d14 d15 HKey kown hrk HSelf b3
  gi_wp2_with fail
  refine wpIn_wide.2 ?_
  go_region_held3 (fun wx => wx.cell? ⟨b11, 0, none⟩ = some (.slice (some ⟨bz, oz, none⟩) mz cap) ∧ wx.cell? ⟨b9, 0, none⟩ = some (.pointer (some ⟨g, 0, none⟩)) ∧ (wx.cell? ⟨Y1.heap.size, 0, none⟩ = some (.slice ay ky cy) ∧ wx.cell? ⟨Y1.heap.size, 1, none⟩ = some (.int .i64 fy) ∧ wx.cell? ⟨Y1.heap.size, 2, none⟩ = some (.slice ayq kyq cyq) ∧ wx.cell? ⟨Y1.heap.size, 3, none⟩ = some (.int .i64 ty) ∧ wx.cell? ⟨Y1.heap.size, 4, none⟩ = some (.int .i64 sy) ∧ wx.cell? ⟨Y1.heap.size, 5, none⟩ = some (.int .i64 dy) ∧ wx.cell? ⟨Y1.heap.size, 6, none⟩ = some (.slice ayv kyv cyv)) ∧ (wx.cell? ⟨bz, oz + k * 7, none⟩ = some q.vr ∧ wx.cell? ⟨bz, oz + k * 7 + 1, none⟩ = some (.int .i64 q.fam) ∧ wx.cell? ⟨bz, oz + k * 7 + 2, none⟩ = some q.vq ∧ wx.cell? ⟨bz, oz + k * 7 + 3, none⟩ = some (.int .i64 q.ts) ∧ wx.cell? ⟨bz, oz + k * 7 + 4, none⟩ = some (.int .i64 q.seq) ∧ wx.cell? ⟨bz, oz + k * 7 + 5, none⟩ = some (.int .i64 q.kind) ∧ wx.cell? ⟨bz, oz + k * 7 + 6, none⟩ = some q.vv)) (first | exact KS.out _ E0 | exact KS.out _ E1 | exact KS.out _ E2) (first | (go_at_call 33; refine Calls.mono (HSe.out _ E0) ?_; rintro e1 wk ⟨rfl, hbk⟩; have E1 := E0.trans (hbk.mono E0.size); have D1 := D0.trans (hbk.mono D0.size)) | (go_at_call 30; refine Calls.mono (HSk.out _ D1) ?_; rintro e2 wm ⟨rfl, hbm⟩; have E2 := E1.trans (hbm.mono E1.size)))
  have bW : Below wr.heap.size wr wm := HBU.out.trans (E2.mono HBU.out.size)
  have hriW := HRi.out.later bW
  have hRxW := hriW.rx HRV.out HIV.out
  have fc := hRxW.c13.cell
  have hE3W := (HYs.out.2.1.later94 HYs.out.2.2).later94 E2
  have HFe : Hid (Calls Tryz.prog 14 #[.pointer (some ⟨gF, 0, none⟩), .agg #[.slice ay ky cy, .int .i64 fy, .slice ayq kyq cyq, .int .i64 ty, .int .i64 sy, .int .i64 dy, .slice ayv kyv cyv]] wm fun e w' => (∃ v, e = .returned v) ∧ FuB w' gF (fun k => F' k ∨ (EntD.mk (.slice ay ky cy) fy (.slice ayq kyq cyq) ty sy dy (.slice ayv kyv cyv) ry qy ly).blk k ∨ (wm.heap.size ≤ k ∧ k < w'.heap.size)) ∧ Fb wm w' (fun k => F' k ∨ (EntD.mk (.slice ay ky cy) fy (.slice ayq kyq cyq) ty sy dy (.slice ayv kyv cyv) ry qy ly).blk k)) := fentry_any hriW.fu hE3W (fun k hk h => by have := (HYs.out.1 k hk).1; have := HRi.out.fu.lt k h; omega)
  obtain ⟨-, -, ⟨d2, d3, d4, d5, d6, d7, d8⟩, -⟩ := KS.out _ E2
  have HRW := Lib.hid hriW
  have HBW := Lib.hid bW
  clear hriW hRxW hE3W bW E0 E1 E2 D0 D1 hbk hbm KS HSe HSk
  gi_wp2_with fail
  refine ⟨trivial, ?_⟩
  refine (callsIn_wide.2 HFe.out).mono ?_
  rintro z Z ⟨⟨vv, rfl⟩, fu2, f2⟩
  have HNx := Lib.hid (loop_grow HRW.out HFw.out.1 HFw.out.2 HBW.out hXs hgi hFg fu2 f2 (fun k hk => (HYs.out.1 k hk).1))
  clear d2 d3 d4 d5 d6 d7 d8 fc HFe fu2 f2 HFw HRi HRW HBW HYs HBU
  gi_wp2
  go_roundw
  case rel => exact ⟨(k : Int) + 1, by omega, by omega, by go_num, HNx.out⟩
  case measure => simp [intOf] <;> omega
end Go.Proofs.YtchebhafabhabaaGreatDoor
