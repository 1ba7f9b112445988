import Derived.Test.YtchebhafabhabaaGreatDoorK23
namespace Go.Proofs.YtchebhafabhabaaGreatDoor
open Go.RowKit Go.Shelf
set_option linter.unusedVariables false

def mkD5 (D : Nat) : Deferred := { target := .collected D, args := #[] }
def MkS (w : World) (KO : Nat → Prop) (B : Nat) (Ds : List Nat) : Prop := Ds.Nodup ∧ ∀ D ∈ Ds, B ≤ D ∧ w.heap[D]? = some (.deferred (some [])) ∧ ¬ KO D
theorem MkS.nil (w : World) (KO : Nat → Prop) (B : Nat) : MkS w KO B [] := ⟨List.nodup_nil, fun D h => (List.not_mem_nil h).elim⟩
theorem MkS.lt {w : World} {KO : Nat → Prop} {B : Nat} {Ds : List Nat} (h : MkS w KO B Ds) : ∀ D ∈ Ds, D < w.heap.size := fun D hD => (Array.getElem?_eq_some_iff.1 (h.2 D hD).2.1).1
theorem MkS.step {w w' : World} {KO KO' : Nat → Prop} {B : Nat} {Ds : List Nat} (h : MkS w KO B Ds) (f : Fb w w' KO) (hk : ∀ k, KO' k → KO k ∨ w.heap.size ≤ k) : MkS w' KO' B Ds :=
 ⟨h.1, fun D hD => ⟨(h.2 D hD).1, (f.block D (h.lt D hD) (h.2 D hD).2.2).trans (h.2 D hD).2.1, fun hh => by
  rcases hk D hh with k | k
  ·exact (h.2 D hD).2.2 k
  ·have := h.lt D hD; omega⟩⟩
theorem MkS.cons {w w' : World} {KO KO' : Nat → Prop} {B D : Nat} {Ds : List Nat} (h : MkS w KO B Ds) (f : Fb w w' KO) (hk : ∀ k, KO' k → KO k ∨ w.heap.size ≤ k) (hD : w.heap.size ≤ D) (hB : B ≤ w.heap.size) (hd : w'.heap[D]? = some (.deferred (some []))) (hn : ¬ KO' D) : MkS w' KO' B (D :: Ds) := by
 have h1 := h.step f hk
 refine ⟨List.nodup_cons.2 ⟨fun hm => by have := h.lt D hm; omega, h1.1⟩, fun E hE => ?_⟩
 rcases List.mem_cons.1 hE with e | e
 ·subst e; exact ⟨by omega, hd, hn⟩
 ·exact h1.2 E e
theorem arr_of5 (T : Array Value) (n : Nat) (h : T.size = n) : T = ((List.range n).map (fun k => T.getD k undef)).toArray := by
 subst h
 apply Array.ext
 ·simp
 ·intro i h1 h2
  simp [h1]
theorem getD_of {T : Array Value} {k : Nat} {v : Value} (h : T[k]? = some v) : T.getD k undef = v := by
 rw [Array.getD_eq_getD_getElem?, h]; rfl
set_option maxRecDepth 100000 in
theorem frame252 {A : Array Value} {v0 v4 v5 v6 v8 v9 v10 v17 v18 : Value} (hs : A.size = 252) (h0 : A[0]? = some v0) (h4 : A[4]? = some v4) (h5 : A[5]? = some v5) (h6 : A[6]? = some v6) (h8 : A[8]? = some v8) (h9 : A[9]? = some v9) (h10 : A[10]? = some v10) (h17 : A[17]? = some v17) (h18 : A[18]? = some v18) : ∃ U : Nat → Value, A = List.toArray ((v0) :: (U 1) :: (U 2) :: (U 3) :: (v4) :: (v5) :: (v6) :: (U 7) :: (v8) :: (v9) :: (v10) :: (U 11) :: (U 12) :: (U 13) :: (U 14) :: (U 15) :: (U 16) :: (v17) :: (v18) :: (U 19) :: (U 20) :: (U 21) :: (U 22) :: (U 23) :: (U 24) :: (U 25) :: (U 26) :: (U 27) :: (U 28) :: (U 29) :: (U 30) :: (U 31) :: (U 32) :: (U 33) :: (U 34) :: (U 35) :: (U 36) :: (U 37) :: (U 38) :: (U 39) :: (U 40) :: (U 41) :: (U 42) :: (U 43) :: (U 44) :: (U 45) :: (U 46) :: (U 47) :: (U 48) :: (U 49) :: (U 50) :: (U 51) :: (U 52) :: (U 53) :: (U 54) :: (U 55) :: (U 56) :: (U 57) :: (U 58) :: (U 59) :: (U 60) :: (U 61) :: (U 62) :: (U 63) :: (U 64) :: (U 65) :: (U 66) :: (U 67) :: (U 68) :: (U 69) :: (U 70) :: (U 71) :: (U 72) :: (U 73) :: (U 74) :: (U 75) :: (U 76) :: (U 77) :: (U 78) :: (U 79) :: (U 80) :: (U 81) :: (U 82) :: (U 83) :: (U 84) :: (U 85) :: (U 86) :: (U 87) :: (U 88) :: (U 89) :: (U 90) :: (U 91) :: (U 92) :: (U 93) :: (U 94) :: (U 95) :: (U 96) :: (U 97) :: (U 98) :: (U 99) :: (U 100) :: (U 101) :: (U 102) :: (U 103) :: (U 104) :: (U 105) :: (U 106) :: (U 107) :: (U 108) :: (U 109) :: (U 110) :: (U 111) :: (U 112) :: (U 113) :: (U 114) :: (U 115) :: (U 116) :: (U 117) :: (U 118) :: (U 119) :: (U 120) :: (U 121) :: (U 122) :: (U 123) :: (U 124) :: (U 125) :: (U 126) :: (U 127) :: (U 128) :: (U 129) :: (U 130) :: (U 131) :: (U 132) :: (U 133) :: (U 134) :: (U 135) :: (U 136) :: (U 137) :: (U 138) :: (U 139) :: (U 140) :: (U 141) :: (U 142) :: (U 143) :: (U 144) :: (U 145) :: (U 146) :: (U 147) :: (U 148) :: (U 149) :: (U 150) :: (U 151) :: (U 152) :: (U 153) :: (U 154) :: (U 155) :: (U 156) :: (U 157) :: (U 158) :: (U 159) :: (U 160) :: (U 161) :: (U 162) :: (U 163) :: (U 164) :: (U 165) :: (U 166) :: (U 167) :: (U 168) :: (U 169) :: (U 170) :: (U 171) :: (U 172) :: (U 173) :: (U 174) :: (U 175) :: (U 176) :: (U 177) :: (U 178) :: (U 179) :: (U 180) :: (U 181) :: (U 182) :: (U 183) :: (U 184) :: (U 185) :: (U 186) :: (U 187) :: (U 188) :: (U 189) :: (U 190) :: (U 191) :: (U 192) :: (U 193) :: (U 194) :: (U 195) :: (U 196) :: (U 197) :: (U 198) :: (U 199) :: (U 200) :: (U 201) :: (U 202) :: (U 203) :: (U 204) :: (U 205) :: (U 206) :: (U 207) :: (U 208) :: (U 209) :: (U 210) :: (U 211) :: (U 212) :: (U 213) :: (U 214) :: (U 215) :: (U 216) :: (U 217) :: (U 218) :: (U 219) :: (U 220) :: (U 221) :: (U 222) :: (U 223) :: (U 224) :: (U 225) :: (U 226) :: (U 227) :: (U 228) :: (U 229) :: (U 230) :: (U 231) :: (U 232) :: (U 233) :: (U 234) :: (U 235) :: (U 236) :: (U 237) :: (U 238) :: (U 239) :: (U 240) :: (U 241) :: (U 242) :: (U 243) :: (U 244) :: (U 245) :: (U 246) :: (U 247) :: (U 248) :: (U 249) :: (U 250) :: (U 251) :: []) := by
 refine ⟨fun k => A.getD k undef, ?_⟩
 rw [← getD_of h0, ← getD_of h4, ← getD_of h5, ← getD_of h6, ← getD_of h8, ← getD_of h9, ← getD_of h10, ← getD_of h17, ← getD_of h18]
 exact arr_of5 A 252 hs
set_option maxRecDepth 100000 in
set_option maxHeartbeats 8000000 in
theorem lent_inner {U0 V X : World} {b4 b5 b8 gk gb cb gx cx q x r b ne ce np cp q' x' b' ne' ce' np' cp' m c na ca n : Nat} {a aa : Option Addr} {zs : List EntD} {s : Bs} {ve vp vl ve' vp' vl' v17 : Value} {KO : Nat → Prop} {Ds : List Nat} {Q : Exit → Act → World → Prop} {s1 s2 s3 s7 s11 s12 s13 s14 s15 s16 s18 s19 s20 s21 s22 s23 s24 s25 s26 s27 s28 s29 s30 s31 s32 s33 s34 s35 s36 s37 s38 s39 s40 s41 s42 s43 s44 s45 s46 s47 s48 s49 s50 s51 s52 s53 s54 s55 s56 s57 s58 s59 s60 s61 s62 s63 s64 s65 s66 s67 s68 s69 s70 s71 s72 s73 s74 s75 s76 s77 s78 s79 s80 s81 s82 s83 s84 s85 s86 s87 s88 s89 s90 s91 s92 s93 s94 s95 s96 s97 s98 s99 s100 s101 s102 s103 s104 s105 s106 s107 s108 s109 s110 s111 s112 s113 s114 s115 s116 s117 s118 s119 s120 s121 s122 s123 s124 s125 s126 s127 s128 s129 s130 s131 s132 s133 s134 s135 s136 s137 s138 s139 s140 s141 s142 s143 s144 s145 s146 s147 s148 s149 s150 s151 s152 s153 s154 s155 s156 s157 s158 s159 s160 s161 s162 s163 s164 s165 s166 s167 s168 s169 s170 s171 s172 s173 s174 s175 s176 s177 s178 s179 s180 s181 s182 s183 s184 s185 s186 s187 s188 s189 s190 s191 s192 s193 s194 s195 s196 s197 s198 s199 s200 s201 s202 s203 s204 s205 s206 s207 s208 s209 s210 s211 s212 s213 s214 s215 s216 s217 s218 s219 s220 s221 s222 s223 s224 s225 s226 s227 s228 s229 s230 s231 s232 s233 s234 s235 s236 s237 s238 s239 s240 s241 s242 s243 s244 s245 s246 s247 s248 s249 s250 s251 : Value}
  (hU : LU U0 b4 b5 r m c na ca a aa zs s) (hg : gk = U0.heap.size) (bV : Below U0.heap.size U0 V) (hV0 : LV V b8 gk gb cb gx cx 0 q x r b ne ce np cp zs s ve vp vl) (hV1 : LV V b8 gk gb cb gx cx 1 q' x' r b' ne' ce' np' cp' zs s ve' vp' vl') (hi : LI V X gk n KO) (hn : n ≤ 300) (hgV : gk < V.heap.size) (hM : MkS X KO V.heap.size Ds)
  (hQ : ∀ (A : Array Value) (Ds' : List Nat) (Z : World) (KO' : Nat → Prop), A.size = 252 → A[0]? = some (.int .i64 (r : Int)) → A[4]? = some (.pointer (some ⟨b4, 0, none⟩)) → A[5]? = some (.pointer (some ⟨b5, 0, none⟩)) → A[6]? = some (.slice aa na ca) → A[8]? = some (.pointer (some ⟨b8, 0, none⟩)) → A[9]? = some (.slice (some ⟨gb, 0, none⟩) 2 cb) → A[10]? = some (.slice (some ⟨gx, 0, none⟩) 2 cx) → A[17]? = some (v17) → LI V Z gk (n + 4 + 12 * min m 12) KO' → Fb X Z KO → (∀ k, KO' k → KO k ∨ X.heap.size ≤ k) → MkS Z KO' V.heap.size Ds' → Q .normal { tmps := A, defers := Ds'.map mkD5 } Z) :
  (inC (fstC (nthC 1 (inC (inC (nthC 1 (fstC (nthC 10 ((Tryz.f6).body.getD .skip))))))))).wpIn Fence.wide 9 Tryz.prog Q { tmps := #[.int .i64 (r : Int), s1, s2, s3, .pointer (some ⟨b4, 0, none⟩), .pointer (some ⟨b5, 0, none⟩), .slice aa na ca, s7, .pointer (some ⟨b8, 0, none⟩), .slice (some ⟨gb, 0, none⟩) 2 cb, .slice (some ⟨gx, 0, none⟩) 2 cx, s11, s12, s13, s14, s15, s16, v17, s18, s19, s20, s21, s22, s23, s24, s25, s26, s27, s28, s29, s30, s31, s32, s33, s34, s35, s36, s37, s38, s39, s40, s41, s42, s43, s44, s45, s46, s47, s48, s49, s50, s51, s52, s53, s54, s55, s56, s57, s58, s59, s60, s61, s62, s63, s64, s65, s66, s67, s68, s69, s70, s71, s72, s73, s74, s75, s76, s77, s78, s79, s80, s81, s82, s83, s84, s85, s86, s87, s88, s89, s90, s91, s92, s93, s94, s95, s96, s97, s98, s99, s100, s101, s102, s103, s104, s105, s106, s107, s108, s109, s110, s111, s112, s113, s114, s115, s116, s117, s118, s119, s120, s121, s122, s123, s124, s125, s126, s127, s128, s129, s130, s131, s132, s133, s134, s135, s136, s137, s138, s139, s140, s141, s142, s143, s144, s145, s146, s147, s148, s149, s150, s151, s152, s153, s154, s155, s156, s157, s158, s159, s160, s161, s162, s163, s164, s165, s166, s167, s168, s169, s170, s171, s172, s173, s174, s175, s176, s177, s178, s179, s180, s181, s182, s183, s184, s185, s186, s187, s188, s189, s190, s191, s192, s193, s194, s195, s196, s197, s198, s199, s200, s201, s202, s203, s204, s205, s206, s207, s208, s209, s210, s211, s212, s213, s214, s215, s216, s217, s218, s219, s220, s221, s222, s223, s224, s225, s226, s227, s228, s229, s230, s231, s232, s233, s234, s235, s236, s237, s238, s239, s240, s241, s242, s243, s244, s245, s246, s247, s248, s249, s250, s251], defers := Ds.map mkD5 } X := by
 have HQ := Lib.hid hQ
 have HU := Lib.hid hU
 have HG := Lib.hid hg
 have HBV := Lib.hid bV
 have HV0 := Lib.hid hV0
 have HV1 := Lib.hid hV1
 have HI := Lib.hid hi
 have HM := Lib.hid hM
 have hm80 := hU.len
 have hVs : V.heap.size ≤ X.heap.size := hi.fb.size
 clear hQ hU hg bV hV0 hV1 hi hM
 show Code.wpIn _ _ _ (Code.seq _ _) _ _ _
 gi_wp2_with fail
 refine wpIn_loop_rounds 3 ?_
 show Code.wpIn _ _ _ (Code.seq _ _) _ _ _
 refine wpIn_seq_k (fun K1 hK1 => ?_)
 have HK1 := Lib.hid hK1
 clear hK1
 gi_wp2
 refine HK1.out _ _ ?_
 clear HK1
 refine wpIn_seq_k (fun K2 hK2 => ?_)
 refine wpIn_block ?_
 refine lent_head (i := 0) HU.out HG.out HBV.out HV0.out HI.out (by omega) (by omega) hgV ?_
 intro A D1 Z1 KO1 e0 e1 e2 e3 e4 e5 e6 e7 e8 e9 l1 f1 n1 hD1 hdf1 hnd1
 obtain ⟨U, rfl⟩ := frame252 e0 e1 e2 e3 e4 e5 e6 e7 e8 e9
 have HM1 := Lib.hid (HM.out.cons f1 n1 hD1 hVs hdf1 hnd1)
 have HL1 := Lib.hid (And.intro l1 (And.intro f1 n1))
 clear e0 e1 e2 e3 e4 e5 e6 e7 e8 e9 l1 f1 n1 hD1 hdf1 hnd1
 refine hK2 _ _ ?_
 clear hK2
 gi_wp2
 show Code.wpIn _ _ _ (Code.seq _ _) _ _ _
 refine wpIn_seq_k (fun K1 hK1 => ?_)
 have HK1 := Lib.hid hK1
 clear hK1
 gi_wp2
 refine HK1.out _ _ ?_
 clear HK1
 refine wpIn_seq_k (fun K2 hK2 => ?_)
 refine wpIn_block ?_
 refine lent_head (i := 1) HU.out HG.out HBV.out HV1.out HL1.out.1 (by omega) (by omega) hgV ?_
 intro A D2 Z2 KO2 e0 e1 e2 e3 e4 e5 e6 e7 e8 e9 l2 f2 n2 hD2 hdf2 hnd2
 obtain ⟨U2, rfl⟩ := frame252 e0 e1 e2 e3 e4 e5 e6 e7 e8 e9
 have hz1 : V.heap.size ≤ Z1.heap.size := by have := HL1.out.2.1.size; omega
 have HM2 := Lib.hid (HM1.out.cons f2 n2 hD2 hz1 hdf2 hnd2)
 have HL2 := Lib.hid (And.intro l2 (lk_end HL1.out.2.1 HL1.out.2.2 f2 n2))
 clear e0 e1 e2 e3 e4 e5 e6 e7 e8 e9 l2 f2 n2 hD2 hdf2 hnd2 hz1
 refine hK2 _ _ ?_
 clear hK2
 gi_wp2
 show Code.wpIn _ _ _ (Code.seq _ _) _ _ _
 gi_wp2
 have hl := HL2.out.1
 rw [show n + 2 + 6 * min m 12 + 2 + 6 * min m 12 = n + 4 + 12 * min m 12 by omega] at hl
 exact HQ.out _ (D2 :: D1 :: Ds) Z2 KO2 rfl rfl rfl rfl rfl rfl rfl rfl rfl hl HL2.out.2.1 HL2.out.2.2 HM2.out
end Go.Proofs.YtchebhafabhabaaGreatDoor

namespace Go.Proofs.YtchebhafabhabaaGreatDoor
open Go.RowKit Go.Shelf
set_option linter.unusedVariables false

theorem fr_fb {w w' : World} {its : List Item} {KO : Nat → Prop} (h : Fr w w' its) (hk : ∀ p ∈ its, ∀ k, p.l.ownBlock = some k → KO k) : Fb w w' KO := ⟨h.os, h.tape, h.output, h.size, fun i hi ho => h.block i hi (fun p hp e => ho (hk p hp i e))⟩
set_option maxRecDepth 100000 in
theorem frame252b {A : Array Value} {v0 v4 v5 v6 v8 v9 v10 v17 : Value} (hs : A.size = 252) (h0 : A[0]? = some v0) (h4 : A[4]? = some v4) (h5 : A[5]? = some v5) (h6 : A[6]? = some v6) (h8 : A[8]? = some v8) (h9 : A[9]? = some v9) (h10 : A[10]? = some v10) (h17 : A[17]? = some v17) : ∃ U : Nat → Value, A = List.toArray ((v0) :: (U 1) :: (U 2) :: (U 3) :: (v4) :: (v5) :: (v6) :: (U 7) :: (v8) :: (v9) :: (v10) :: (U 11) :: (U 12) :: (U 13) :: (U 14) :: (U 15) :: (U 16) :: (v17) :: (U 18) :: (U 19) :: (U 20) :: (U 21) :: (U 22) :: (U 23) :: (U 24) :: (U 25) :: (U 26) :: (U 27) :: (U 28) :: (U 29) :: (U 30) :: (U 31) :: (U 32) :: (U 33) :: (U 34) :: (U 35) :: (U 36) :: (U 37) :: (U 38) :: (U 39) :: (U 40) :: (U 41) :: (U 42) :: (U 43) :: (U 44) :: (U 45) :: (U 46) :: (U 47) :: (U 48) :: (U 49) :: (U 50) :: (U 51) :: (U 52) :: (U 53) :: (U 54) :: (U 55) :: (U 56) :: (U 57) :: (U 58) :: (U 59) :: (U 60) :: (U 61) :: (U 62) :: (U 63) :: (U 64) :: (U 65) :: (U 66) :: (U 67) :: (U 68) :: (U 69) :: (U 70) :: (U 71) :: (U 72) :: (U 73) :: (U 74) :: (U 75) :: (U 76) :: (U 77) :: (U 78) :: (U 79) :: (U 80) :: (U 81) :: (U 82) :: (U 83) :: (U 84) :: (U 85) :: (U 86) :: (U 87) :: (U 88) :: (U 89) :: (U 90) :: (U 91) :: (U 92) :: (U 93) :: (U 94) :: (U 95) :: (U 96) :: (U 97) :: (U 98) :: (U 99) :: (U 100) :: (U 101) :: (U 102) :: (U 103) :: (U 104) :: (U 105) :: (U 106) :: (U 107) :: (U 108) :: (U 109) :: (U 110) :: (U 111) :: (U 112) :: (U 113) :: (U 114) :: (U 115) :: (U 116) :: (U 117) :: (U 118) :: (U 119) :: (U 120) :: (U 121) :: (U 122) :: (U 123) :: (U 124) :: (U 125) :: (U 126) :: (U 127) :: (U 128) :: (U 129) :: (U 130) :: (U 131) :: (U 132) :: (U 133) :: (U 134) :: (U 135) :: (U 136) :: (U 137) :: (U 138) :: (U 139) :: (U 140) :: (U 141) :: (U 142) :: (U 143) :: (U 144) :: (U 145) :: (U 146) :: (U 147) :: (U 148) :: (U 149) :: (U 150) :: (U 151) :: (U 152) :: (U 153) :: (U 154) :: (U 155) :: (U 156) :: (U 157) :: (U 158) :: (U 159) :: (U 160) :: (U 161) :: (U 162) :: (U 163) :: (U 164) :: (U 165) :: (U 166) :: (U 167) :: (U 168) :: (U 169) :: (U 170) :: (U 171) :: (U 172) :: (U 173) :: (U 174) :: (U 175) :: (U 176) :: (U 177) :: (U 178) :: (U 179) :: (U 180) :: (U 181) :: (U 182) :: (U 183) :: (U 184) :: (U 185) :: (U 186) :: (U 187) :: (U 188) :: (U 189) :: (U 190) :: (U 191) :: (U 192) :: (U 193) :: (U 194) :: (U 195) :: (U 196) :: (U 197) :: (U 198) :: (U 199) :: (U 200) :: (U 201) :: (U 202) :: (U 203) :: (U 204) :: (U 205) :: (U 206) :: (U 207) :: (U 208) :: (U 209) :: (U 210) :: (U 211) :: (U 212) :: (U 213) :: (U 214) :: (U 215) :: (U 216) :: (U 217) :: (U 218) :: (U 219) :: (U 220) :: (U 221) :: (U 222) :: (U 223) :: (U 224) :: (U 225) :: (U 226) :: (U 227) :: (U 228) :: (U 229) :: (U 230) :: (U 231) :: (U 232) :: (U 233) :: (U 234) :: (U 235) :: (U 236) :: (U 237) :: (U 238) :: (U 239) :: (U 240) :: (U 241) :: (U 242) :: (U 243) :: (U 244) :: (U 245) :: (U 246) :: (U 247) :: (U 248) :: (U 249) :: (U 250) :: (U 251) :: []) := by
 refine ⟨fun k => A.getD k undef, ?_⟩
 rw [← getD_of h0, ← getD_of h4, ← getD_of h5, ← getD_of h6, ← getD_of h8, ← getD_of h9, ← getD_of h10, ← getD_of h17]
 exact arr_of5 A 252 hs
set_option maxRecDepth 100000 in
set_option maxHeartbeats 8000000 in
theorem lent_end {U0 V X : World} {B b4 b5 b8 gk gb cb gx cx q x r b ne ce np cp q' x' b' ne' ce' np' cp' m c na ca n : Nat} {a aa : Option Addr} {zs : List EntD} {s : Bs} {ve vp vl ve' vp' vl' : Value} {KO : Nat → Prop} {Ds : List Nat} {Q : Exit → Act → World → Prop} {s1 s2 s3 s7 s11 s12 s13 s14 s15 s16 s17 s18 s19 s20 s21 s22 s23 s24 s25 s26 s27 s28 s29 s30 s31 s32 s33 s34 s35 s36 s37 s38 s39 s40 s41 s42 s43 s44 s45 s46 s47 s48 s49 s50 s51 s52 s53 s54 s55 s56 s57 s58 s59 s60 s61 s62 s63 s64 s65 s66 s67 s68 s69 s70 s71 s72 s73 s74 s75 s76 s77 s78 s79 s80 s81 s82 s83 s84 s85 s86 s87 s88 s89 s90 s91 s92 s93 s94 s95 s96 s97 s98 s99 s100 s101 s102 s103 s104 s105 s106 s107 s108 s109 s110 s111 s112 s113 s114 s115 s116 s117 s118 s119 s120 s121 s122 s123 s124 s125 s126 s127 s128 s129 s130 s131 s132 s133 s134 s135 s136 s137 s138 s139 s140 s141 s142 s143 s144 s145 s146 s147 s148 s149 s150 s151 s152 s153 s154 s155 s156 s157 s158 s159 s160 s161 s162 s163 s164 s165 s166 s167 s168 s169 s170 s171 s172 s173 s174 s175 s176 s177 s178 s179 s180 s181 s182 s183 s184 s185 s186 s187 s188 s189 s190 s191 s192 s193 s194 s195 s196 s197 s198 s199 s200 s201 s202 s203 s204 s205 s206 s207 s208 s209 s210 s211 s212 s213 s214 s215 s216 s217 s218 s219 s220 s221 s222 s223 s224 s225 s226 s227 s228 s229 s230 s231 s232 s233 s234 s235 s236 s237 s238 s239 s240 s241 s242 s243 s244 s245 s246 s247 s248 s249 s250 s251 : Value}
  (hU : LU U0 b4 b5 r m c na ca a aa zs s) (hg : gk = U0.heap.size) (bV : Below U0.heap.size U0 V) (hV0 : LV V b8 gk gb cb gx cx 0 q x r b ne ce np cp zs s ve vp vl) (hV1 : LV V b8 gk gb cb gx cx 1 q' x' r b' ne' ce' np' cp' zs s ve' vp' vl') (hi : LI V X gk n KO) (hn : n ≤ 900) (hgV : gk < V.heap.size) (hM : MkS X KO V.heap.size Ds) (hB : B ≤ b4) (hBU : B ≤ U0.heap.size)
  (hQ : ∀ (A : Array Value) (Ds' : List Nat) (Z : World), A[4]? = some (.pointer (some ⟨b4, 0, none⟩)) → Cell1B Z b4 (.bool true) 4 → Below B U0 Z → Ds'.Nodup → (∀ D ∈ Ds', V.heap.size ≤ D ∧ Z.heap[D]? = some (.deferred (some []))) → Q .ret { tmps := A, defers := Ds'.map mkD5 } Z) :
  (nthC 11 ((Tryz.f6).body.getD .skip)).wpIn Fence.wide 9 Tryz.prog Q { tmps := #[.int .i64 (r : Int), s1, s2, s3, .pointer (some ⟨b4, 0, none⟩), .pointer (some ⟨b5, 0, none⟩), .slice aa na ca, s7, .pointer (some ⟨b8, 0, none⟩), .slice (some ⟨gb, 0, none⟩) 2 cb, .slice (some ⟨gx, 0, none⟩) 2 cx, s11, s12, s13, s14, s15, s16, s17, s18, s19, s20, s21, s22, s23, s24, s25, s26, s27, s28, s29, s30, s31, s32, s33, s34, s35, s36, s37, s38, s39, s40, s41, s42, s43, s44, s45, s46, s47, s48, s49, s50, s51, s52, s53, s54, s55, s56, s57, s58, s59, s60, s61, s62, s63, s64, s65, s66, s67, s68, s69, s70, s71, s72, s73, s74, s75, s76, s77, s78, s79, s80, s81, s82, s83, s84, s85, s86, s87, s88, s89, s90, s91, s92, s93, s94, s95, s96, s97, s98, s99, s100, s101, s102, s103, s104, s105, s106, s107, s108, s109, s110, s111, s112, s113, s114, s115, s116, s117, s118, s119, s120, s121, s122, s123, s124, s125, s126, s127, s128, s129, s130, s131, s132, s133, s134, s135, s136, s137, s138, s139, s140, s141, s142, s143, s144, s145, s146, s147, s148, s149, s150, s151, s152, s153, s154, s155, s156, s157, s158, s159, s160, s161, s162, s163, s164, s165, s166, s167, s168, s169, s170, s171, s172, s173, s174, s175, s176, s177, s178, s179, s180, s181, s182, s183, s184, s185, s186, s187, s188, s189, s190, s191, s192, s193, s194, s195, s196, s197, s198, s199, s200, s201, s202, s203, s204, s205, s206, s207, s208, s209, s210, s211, s212, s213, s214, s215, s216, s217, s218, s219, s220, s221, s222, s223, s224, s225, s226, s227, s228, s229, s230, s231, s232, s233, s234, s235, s236, s237, s238, s239, s240, s241, s242, s243, s244, s245, s246, s247, s248, s249, s250, s251], defers := Ds.map mkD5 } X := by
 have HQ := Lib.hid hQ
 have hmx : Tryz.prog.follows .mixedOrders = true := by kernel_rfl
 have D0 : Below X.heap.size X X.drew := (Below.refl _ _).drew
 obtain ⟨its, hbk, hits⟩ := hi.bk.bk
 have hb4 : b4 < U0.heap.size := hU.c4.lt
 have hUV : U0.heap.size ≤ V.heap.size := bV.size
 have HSt := Lib.hid (settle_any hbk D0 (by omega) (Nat.zero_le _))
 have hmz := hU.hm
 have HFw : Hid (∀ w1, Fr X.drew w1 its → Fb X w1 KO) := fun w1 f => (Fb.of_below D0).trans (fr_fb f hits)
 have HFs : Hid (∀ w1 wx, Fb X w1 KO → Below w1.heap.size w1 wx → LU wx b4 b5 r m c na ca a aa zs s ∧ LV wx b8 gk gb cb gx cx 0 q x r b ne ce np cp zs s ve vp vl ∧ LV wx b8 gk gb cb gx cx 1 q' x' r b' ne' ce' np' cp' zs s ve' vp' vl' ∧ Below U0.heap.size U0 wx) := fun w1 wx f bx => by
  have fV : Fb V wx (fun k => k = gk) := (hi.fb.trans' f hi.fb.size (fun k hk h => by
   rcases hi.new k h with h | h
   ·exact h
   ·omega)).trans (Fb.of_below bx)
  have bZ : Below U0.heap.size U0 wx := bV.trans (fV.belowB (fun k e => by have e' : k = gk := e; omega) bV.size)
  exact ⟨hU.later bZ, hV0.fb fV, hV1.fb fV, bZ⟩
 have HCs : Hid (∀ w1 wx, Fb X w1 KO → Below w1.heap.size w1 wx → wx.cell? ⟨b8, 0, none⟩ = some (.pointer (some ⟨gk, 0, none⟩)) ∧ wx.cell? ⟨b5, 0, none⟩ = some (.slice a m c) ∧ wx.cell? ⟨gx, 0, none⟩ = some (.pointer (some ⟨x, 0, none⟩)) ∧ wx.cell? ⟨gx, 1, none⟩ = some (.pointer (some ⟨x', 0, none⟩))) := fun w1 wx f bx => by
  obtain ⟨h1, h2, h3, -⟩ := HFs.out w1 wx f bx
  exact ⟨h2.c8.cell, h1.c5.cell, h2.cx_, h3.cx_⟩
 have HT1 : Hid (∀ w1 wx, Fb X w1 KO → Below w1.heap.size w1 wx → Calls Tryz.prog 38 #[.pointer (some ⟨x, 0, none⟩), .slice a m c, .slice none 0 0] wx fun z w' => z = .returned (.bool true) ∧ Below wx.heap.size wx w') := fun w1 wx f bx => by
  obtain ⟨h1, h2, h3, -⟩ := HFs.out w1 wx f bx
  have h := tells5_any h1.la h2.lk h1.rd h1.ck (Rd.nil wx)
  rw [h1.hm] at h
  exact h
 have HT2 : Hid (∀ w1 wx, Fb X w1 KO → Below w1.heap.size w1 wx → Calls Tryz.prog 38 #[.pointer (some ⟨x', 0, none⟩), .slice a m c, .slice none 0 0] wx fun z w' => z = .returned (.bool true) ∧ Below wx.heap.size wx w') := fun w1 wx f bx => by
  obtain ⟨h1, h2, h3, -⟩ := HFs.out w1 wx f bx
  have h := tells5_any h1.la h3.lk h1.rd h1.ck (Rd.nil wx)
  rw [h1.hm] at h
  exact h
 have k0 := HCs.out X X.drew (Fb.refl _ _) D0
 have HM := Lib.hid hM
 have HLt := Lib.hid hi.bk.lt
 have HXV : Hid (V.heap.size ≤ X.heap.size) := hi.fb.size
 clear hQ hU hg bV hV0 hV1 hi hM hbk hits hmz
 show Code.wpIn _ _ _ (Code.seq _ _) _ _ _
 gi_wp2_with fail
 refine wpIn_wide.2 ?_
 go_region_held3 (fun wx => wx.cell? ⟨b8, 0, none⟩ = some (.pointer (some ⟨gk, 0, none⟩)) ∧ wx.cell? ⟨b5, 0, none⟩ = some (.slice a m c) ∧ wx.cell? ⟨gx, 0, none⟩ = some (.pointer (some ⟨x, 0, none⟩)) ∧ wx.cell? ⟨gx, 1, none⟩ = some (.pointer (some ⟨x', 0, none⟩))) (first | exact k0 | exact k1 | exact k2 | exact k3) (first
  | (have hq := T2; clear hq; go_at_call 38; refine Calls.mono (HT2.out w1 _ F1 D2) ?_; rintro e3 w3 ⟨rfl, hb3⟩; have D3 := D2.trans (hb3.mono D2.size); have k3 := HCs.out w1 _ F1 D3)
  | (have hq := T1; clear hq; go_at_call 38; refine Calls.mono (HT1.out w1 _ F1 D1) ?_; rintro e2 w2 ⟨rfl, hb2⟩; have D2 := D1.trans (hb2.mono D1.size); have k2 := HCs.out w1 _ F1 D2; have T2 : True := trivial)
  | (go_at_call 44; refine Calls.mono HSt.out ?_; rintro e1 w1 ⟨rfl, -, fr1, bs1⟩; have F1 := HFw.out w1 fr1; have D1 := Below.refl w1.heap.size w1; have k1 := HCs.out w1 _ F1 D1; have T1 : True := trivial))
 obtain ⟨hu3, hv3, -, -⟩ := HFs.out w1 w3 F1 D3
 have HFi := Lib.hid (lent_finish hu3 hv3)
 have gc0 := hv3.cb_
 have HAll := Lib.hid hu3.all
 have HBy : Hid (Bys (blockL s.es s.ps m r) ∧ (blockL s.es s.ps m r).length ≤ 131072) := ⟨hu3.all.1, by rw [blockL_len]; exact hu3.la.size⟩
 have HF1 := Lib.hid F1
 have HD3 := Lib.hid D3
 have HBs := Lib.hid bs1
 clear k0 k1 k2 k3 T1 T2 D0 D1 D2 D3 F1 hb2 hb3 fr1 bs1 hu3 hv3 HT1 HT2 HSt HFw
 gi_wp2_with fail
 refine ⟨trivial, ?_⟩
 refine (callsIn_wide.2 HFi.out).mono ?_
 rintro z w4 ⟨a1, m1, c1, rfl, o1, b1⟩
 have hl1 : m1 = (blockL s.es s.ps m r).length := o1.1
 have HS : Hid (Calls Tryz.prog 20 #[.slice a1 m1 c1, .slice aa na ca] w4 fun e w' => e = .returned (.bool true) ∧ Below w4.heap.size w4 w') := by
  refine (same5_any (o1.rd HBy.out.1 (by have := HBy.out.2; omega)) (HAll.out.later b1)).mono ?_
  rintro e w' ⟨rfl, hb⟩
  exact ⟨by rw [decide_eq_true rfl], hb⟩
 have HD4 := Lib.hid (HD3.out.trans (b1.mono HD3.out.size))
 clear HFi gc0 HAll HBy HD3 o1 b1 hl1
 gi_wp2_with fail
 refine ⟨trivial, ?_⟩
 refine (callsIn_wide.2 HS.out).mono ?_
 rintro z w5 ⟨rfl, b5'⟩
 have D5 := HD4.out.trans (b5'.mono HD4.out.size)
 have k8 := (HCs.out w1 w5 HF1.out D5).1
 have HSd := Lib.hid (settled_any (HBs.out w5 (D5.mono HF1.out.size)) (by omega))
 have HTo := Lib.hid (told5_any w5 (HFs.out w1 w5 HF1.out D5).1.tab)
 have HD5 := Lib.hid D5
 clear HS HD4 b5' D5 HBs
 gi_wp2_with fail
 refine ⟨trivial, ?_⟩
 refine (callsIn_wide.2 HSd.out).mono ?_
 rintro z w6 ⟨rfl, rfl⟩
 clear k8 HSd
 gi_wp2_with fail
 refine ⟨trivial, ?_⟩
 refine (callsIn_wide.2 HTo.out).mono ?_
 rintro z w7 ⟨rfl, b7⟩
 have D7 := HD5.out.trans (b7.mono HD5.out.size)
 obtain ⟨hu7, -, -, bU7⟩ := HFs.out w1 w7 HF1.out D7
 have rc := hu7.c4.cell
 have rf := hu7.c4.fz
 have HEnd : Hid (Cell1B (w7.setCell ⟨b4, 0, none⟩ (.bool true)) b4 (.bool true) 4 ∧ Below B U0 (w7.setCell ⟨b4, 0, none⟩ (.bool true)) ∧ Ds.Nodup ∧ ∀ D ∈ Ds, V.heap.size ≤ D ∧ (w7.setCell ⟨b4, 0, none⟩ (.bool true)).heap[D]? = some (.deferred (some []))) := by
  refine ⟨hu7.c4.set _, (bU7.mono hBU).setCell (p := ⟨b4, 0, none⟩) (by show B ≤ b4; exact hB) (.bool true), HM.out.1, fun D hD => ⟨(HM.out.2 D hD).1, ?_⟩⟩
  have h1 := HM.out.lt D hD
  have e1 := (HF1.out.block D h1 (HM.out.2 D hD).2.2).trans (HM.out.2 D hD).2.1
  have e7 := (D7.block D (Array.getElem?_eq_some_iff.1 e1).1).trans e1
  have hDV := (HM.out.2 D hD).1
  exact (Below.heap_setCell _ _ _ _ (by show _ ≠ b4; omega)).trans e7
 clear hu7 bU7 D7 b7 HTo HD5 HF1 HFs HCs HM
 gi_wp2
 exact HQ.out _ Ds _ rfl HEnd.out.1 HEnd.out.2.1 HEnd.out.2.2.1 HEnd.out.2.2.2
set_option maxRecDepth 100000 in
set_option maxHeartbeats 8000000 in
theorem lent_two {U0 V : World} {B b4 b5 b8 gk gb cb gx cx q x r b ne ce np cp q' x' b' ne' ce' np' cp' m c na ca : Nat} {a aa : Option Addr} {zs : List EntD} {s : Bs} {ve vp vl ve' vp' vl' : Value} {Q : Exit → Act → World → Prop} {s1 s2 s3 s7 s11 s12 s13 s14 s15 s16 s17 s18 s19 s20 s21 s22 s23 s24 s25 s26 s27 s28 s29 s30 s31 s32 s33 s34 s35 s36 s37 s38 s39 s40 s41 s42 s43 s44 s45 s46 s47 s48 s49 s50 s51 s52 s53 s54 s55 s56 s57 s58 s59 s60 s61 s62 s63 s64 s65 s66 s67 s68 s69 s70 s71 s72 s73 s74 s75 s76 s77 s78 s79 s80 s81 s82 s83 s84 s85 s86 s87 s88 s89 s90 s91 s92 s93 s94 s95 s96 s97 s98 s99 s100 s101 s102 s103 s104 s105 s106 s107 s108 s109 s110 s111 s112 s113 s114 s115 s116 s117 s118 s119 s120 s121 s122 s123 s124 s125 s126 s127 s128 s129 s130 s131 s132 s133 s134 s135 s136 s137 s138 s139 s140 s141 s142 s143 s144 s145 s146 s147 s148 s149 s150 s151 s152 s153 s154 s155 s156 s157 s158 s159 s160 s161 s162 s163 s164 s165 s166 s167 s168 s169 s170 s171 s172 s173 s174 s175 s176 s177 s178 s179 s180 s181 s182 s183 s184 s185 s186 s187 s188 s189 s190 s191 s192 s193 s194 s195 s196 s197 s198 s199 s200 s201 s202 s203 s204 s205 s206 s207 s208 s209 s210 s211 s212 s213 s214 s215 s216 s217 s218 s219 s220 s221 s222 s223 s224 s225 s226 s227 s228 s229 s230 s231 s232 s233 s234 s235 s236 s237 s238 s239 s240 s241 s242 s243 s244 s245 s246 s247 s248 s249 s250 s251 : Value}
  (hU : LU U0 b4 b5 r m c na ca a aa zs s) (hg : gk = U0.heap.size) (bV : Below U0.heap.size U0 V) (hV0 : LV V b8 gk gb cb gx cx 0 q x r b ne ce np cp zs s ve vp vl) (hV1 : LV V b8 gk gb cb gx cx 1 q' x' r b' ne' ce' np' cp' zs s ve' vp' vl') (hk : BkB V gk 0 (fun k => k = gk)) (hgV : gk < V.heap.size) (hB : B ≤ b4) (hBU : B ≤ U0.heap.size)
  (hQ : ∀ (A : Array Value) (Ds' : List Nat) (Z : World), A[4]? = some (.pointer (some ⟨b4, 0, none⟩)) → Cell1B Z b4 (.bool true) 4 → Below B U0 Z → Ds'.Nodup → (∀ D ∈ Ds', V.heap.size ≤ D ∧ Z.heap[D]? = some (.deferred (some []))) → Q .ret { tmps := A, defers := Ds'.map mkD5 } Z) :
  (nthC 10 ((Tryz.f6).body.getD .skip)).wpIn Fence.wide 9 Tryz.prog Q { tmps := #[.int .i64 (r : Int), s1, s2, s3, .pointer (some ⟨b4, 0, none⟩), .pointer (some ⟨b5, 0, none⟩), .slice aa na ca, s7, .pointer (some ⟨b8, 0, none⟩), .slice (some ⟨gb, 0, none⟩) 2 cb, .slice (some ⟨gx, 0, none⟩) 2 cx, s11, s12, s13, s14, s15, s16, s17, s18, s19, s20, s21, s22, s23, s24, s25, s26, s27, s28, s29, s30, s31, s32, s33, s34, s35, s36, s37, s38, s39, s40, s41, s42, s43, s44, s45, s46, s47, s48, s49, s50, s51, s52, s53, s54, s55, s56, s57, s58, s59, s60, s61, s62, s63, s64, s65, s66, s67, s68, s69, s70, s71, s72, s73, s74, s75, s76, s77, s78, s79, s80, s81, s82, s83, s84, s85, s86, s87, s88, s89, s90, s91, s92, s93, s94, s95, s96, s97, s98, s99, s100, s101, s102, s103, s104, s105, s106, s107, s108, s109, s110, s111, s112, s113, s114, s115, s116, s117, s118, s119, s120, s121, s122, s123, s124, s125, s126, s127, s128, s129, s130, s131, s132, s133, s134, s135, s136, s137, s138, s139, s140, s141, s142, s143, s144, s145, s146, s147, s148, s149, s150, s151, s152, s153, s154, s155, s156, s157, s158, s159, s160, s161, s162, s163, s164, s165, s166, s167, s168, s169, s170, s171, s172, s173, s174, s175, s176, s177, s178, s179, s180, s181, s182, s183, s184, s185, s186, s187, s188, s189, s190, s191, s192, s193, s194, s195, s196, s197, s198, s199, s200, s201, s202, s203, s204, s205, s206, s207, s208, s209, s210, s211, s212, s213, s214, s215, s216, s217, s218, s219, s220, s221, s222, s223, s224, s225, s226, s227, s228, s229, s230, s231, s232, s233, s234, s235, s236, s237, s238, s239, s240, s241, s242, s243, s244, s245, s246, s247, s248, s249, s250, s251], defers := [] } V := by
 have HQ := Lib.hid hQ
 have HU := Lib.hid hU
 have HG := Lib.hid hg
 have HBV := Lib.hid bV
 have HV0 := Lib.hid hV0
 have HV1 := Lib.hid hV1
 have hm80 := hU.len
 have HI : Hid (LI V V gk 0 (fun k => k = gk)) := ⟨hk, Fb.refl _ _, fun k h => .inl h⟩
 have HM : Hid (MkS V (fun k => k = gk) V.heap.size []) := MkS.nil _ _ _
 clear hQ hU hg bV hV0 hV1 hk
 show Code.wpIn _ _ _ (Code.seq _ _) _ _ _
 refine wpIn_seq_k (fun K0 hK0 => ?_)
 have HK0 := Lib.hid hK0
 clear hK0
 gi_wp2_with fail
 refine wpIn_loop_rounds 3 ?_
 show Code.wpIn _ _ _ (Code.seq _ _) _ _ _
 refine wpIn_seq_k (fun K1 hK1 => ?_)
 have HK1 := Lib.hid hK1
 clear hK1
 gi_wp2
 refine HK1.out _ _ ?_
 clear HK1
 refine wpIn_seq_k (fun K2 hK2 => ?_)
 refine wpIn_block ?_
 refine lent_inner (Ds := []) HU.out HG.out HBV.out HV0.out HV1.out HI.out (by omega) hgV HM.out ?_
 intro A Ds1 Z1 KO1 e0 e1 e2 e3 e4 e5 e6 e7 e8 l1 f1 n1 M1
 obtain ⟨U, rfl⟩ := frame252b e0 e1 e2 e3 e4 e5 e6 e7 e8
 have HL1 := Lib.hid (And.intro l1 M1)
 clear e0 e1 e2 e3 e4 e5 e6 e7 e8 l1 f1 n1 M1
 refine hK2 _ _ ?_
 clear hK2
 gi_wp2
 show Code.wpIn _ _ _ (Code.seq _ _) _ _ _
 refine wpIn_seq_k (fun K1 hK1 => ?_)
 have HK1 := Lib.hid hK1
 clear hK1
 gi_wp2
 refine HK1.out _ _ ?_
 clear HK1
 refine wpIn_seq_k (fun K2 hK2 => ?_)
 refine wpIn_block ?_
 refine lent_inner HU.out HG.out HBV.out HV0.out HV1.out HL1.out.1 (by omega) hgV HL1.out.2 ?_
 intro A Ds2 Z2 KO2 e0 e1 e2 e3 e4 e5 e6 e7 e8 l2 f2 n2 M2
 obtain ⟨U2, rfl⟩ := frame252b e0 e1 e2 e3 e4 e5 e6 e7 e8
 have HL2 := Lib.hid (And.intro l2 M2)
 clear e0 e1 e2 e3 e4 e5 e6 e7 e8 l2 f2 n2 M2
 refine hK2 _ _ ?_
 clear hK2
 gi_wp2
 show Code.wpIn _ _ _ (Code.seq _ _) _ _ _
 gi_wp2
 refine HK0.out _ _ ?_
 exact lent_end HU.out HG.out HBV.out HV0.out HV1.out HL2.out.1 (by omega) hgV HL2.out.2 hB hBU HQ.out
end Go.Proofs.YtchebhafabhabaaGreatDoor

namespace Go.Proofs.YtchebhafabhabaaGreatDoor
open Go.RowKit Go.Shelf
set_option linter.unusedVariables false

theorem row_form1 {w : World} {B n : Nat} {e : TypeId} {v : Value} {xs : List Value} (h : w.ownsRow B e 1 v n xs) : ∃ a c, v = .slice a n c := by
 rcases h.2 with ⟨h1, h2⟩ | ⟨g, cap, cur, h3, h4⟩
 ·exact ⟨none, 0, by rw [h1, h2]⟩
 ·exact ⟨_, _, h3⟩
theorem wpl_append1 {w : World} {ops : Array Oper} {rest : List Oper} {o : Oper} {a : Act} {Q : Exit → Act → World → Prop} (hgd : o.guard = none) (s x : Operand) (te ts bb : Nat) (z : Value) (hund : Tryz.prog.underlying ts = some (.slice te)) (hinf : (Tryz.prog.info? te).map (fun i => (i.zero, i.size, i.bytes)) = some (some z, 1, bb)) (hzs : z.cells.size = 1) (hb24 : bb ≤ 24)
  (ho : o.op = .call { callee := .builtin .append, args := #[s, x], argTypes := #[ts, ts] })
  (B : Nat) (ap : Option Addr) (n cp : Nat) (vs : List Value) (hs : a.eval s = .slice ap n cp) (hown : w.ownsRow B te 1 (.slice ap n cp) n vs)
  (blk : Nat) (u : Value) (hx : a.eval x = .slice (some ⟨blk, 0, none⟩) 1 1) (hu : w.cell? ⟨blk, 0, none⟩ = some u) (h1 : u.oneCell' = true) (hn : n ≤ 1000000) (hB : B ≤ w.heap.size)
  (h : ∀ a' c' w', w'.ownsRow B te 1 (.slice a' (n + 1) c') (n + 1) (vs ++ [u]) → w.grownBy w' (Value.slice ap n cp).ownBlock → ((Value.slice a' (n + 1) c').ownBlock = (Value.slice ap n cp).ownBlock ∨ (Value.slice a' (n + 1) c').ownBlock = some w.heap.size) → wpList Tryz.prog ops Q rest (a.put o.dst (.slice a' (n + 1) c')) w') : wpList Tryz.prog ops Q (o :: rest) a w := by
 obtain ⟨i0, hi, hz0, hz1, hz2⟩ := info_parts hinf
 obtain ⟨v', w', hr, h2, h3, h4, h5⟩ := run_append_own_at (P := Tryz.prog) w B ts o.type te i0 z 1 bb hund hi hz0 hz1 hz2 hzs (by decide) _ n vs hown ⟨blk, 0, none⟩ 1 1 [u] (by simp) (fun j y hj => by
  have hj0 : j = 0 := by
   have := (List.getElem?_eq_some_iff.1 hj).1
   simp at this
   exact this
  subst hj0
  simp at hj
  subst hj
  have e : (⟨blk, 0, none⟩ : Addr).add 0 = ⟨blk, 0, none⟩ := by unfold Addr.add; split <;> simp_all
  rw [e]
  exact hu) (fun y hy => by simp at hy; subst hy; exact h1) (by unfold maxLen; omega) (by
   have : (n + 1) * bb ≤ (n + 1) * 24 := Nat.mul_le_mul_left _ hb24
   omega) hB
 obtain ⟨a', c', rfl⟩ := row_form1 h2
 refine wpList_plain hgd fun _ hK => ?_
 unfold Oper.wp execOp
 rw [ho]
 simp only [resolve, invoke, builtin, Sem.run_bind, Sem.run_pure, Result.andThen_ok, List.map_toArray, List.map_cons, List.map_nil, hs, hx, hr]
 exact hK _ _ (h a' c' w' h2 h3 h5)
theorem und_ptrs : Tryz.prog.underlying 74 = some (.slice 58) := by kernel_rfl
theorem info_ptrs : (Tryz.prog.info? 58).map (fun i => (i.zero, i.size, i.bytes)) = some (some (.pointer none), 1, 8) := by kernel_rfl
end Go.Proofs.YtchebhafabhabaaGreatDoor

namespace Go.Proofs.YtchebhafabhabaaGreatDoor
open Go.RowKit Go.Shelf
set_option linter.unusedVariables false

def OpI (w : World) (I : Nat → Prop) (pv wv : Value) : Prop := ∃ (g r b ne ce np cp : Nat) (E P : List Nat) (a : Option Addr) (cap : Nat) (xs : List EntD), pv = .pointer (some ⟨g, 0, none⟩) ∧ wv = .slice a xs.length cap ∧ Blad r (kvL xs) E P ∧ Lk w 0 g r (kvL xs).length b ne ce E P np cp ∧ RdL5 w a cap xs ∧ (∀ e ∈ xs, checkS e = 0) ∧ I g ∧ I b ∧ (∀ k, adB a k → I k) ∧ (∀ e ∈ xs, ∀ k, e.adr k → I k)
structure Ag5 (W wr : World) (gb n c : Nat) (bs : List Nat) (vo vw : Value) (no nw : Nat) (ps ws : List Value) (I : Nat → Prop) : Prop where
 laid : Laid wr W.heap.size (.slice (some ⟨gb, 0, none⟩) n c) bs
 len : bs.length = n
 bys : Bys bs
 ro : wr.ownsRow W.heap.size 58 1 vo no ps
 rw_ : wr.ownsRow W.heap.size 22 1 vw nw ws
 its : ∀ (i : Nat) p v, ps[i]? = some p → ws[i]? = some v → OpI wr I p v
 lo : ∀ k, I k → k < wr.heap.size
 ngb : ¬ I gb
 no_ : ∀ k, vo.ownBlock = some k → ¬ I k ∧ k ≠ gb
 nw_ : ∀ k, vw.ownBlock = some k → ¬ I k ∧ k ≠ gb ∧ vo.ownBlock ≠ some k
 bel : Below W.heap.size W wr
end Go.Proofs.YtchebhafabhabaaGreatDoor
