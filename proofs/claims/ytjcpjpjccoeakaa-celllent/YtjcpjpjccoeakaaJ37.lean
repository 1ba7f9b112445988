import Derived.Test.YtjcpjpjccoeakaaJ30
import Derived.Test.YtjcpjpjccoeakaaJ18
import Derived.Lib.Hide
import Derived.Test.YtjcpjpjccoeakaaJ36
import Derived.Test.YtjcpjpjccoeakaaJ33
namespace Go.Proofs.Ytjcpjpjccoeakaa
open Go.RowKit
set_option linter.unusedVariables false

/-- What the calls answer of an entry: ten byte strings. -/
def AnsE (D : EntD) (C : List (List Nat)) : Prop := ∃ u Eu v P E K V P1 E1 P2 E2, Det (keyA D) u Eu ∧ bytesR (packA D) 0 1048 = (K, P1, E1) ∧ bytesR (packA D) P1 4096 = (V, P2, E2) ∧ UDet K V E1 P2 E2 v P E ∧ C = [keyA D, packA D, startL D.row, behindL D.row, u.row, u.qual, u.val, v.row, v.qual, v.val]
theorem AnsE.one {D : EntD} {C C' : List (List Nat)} (h : AnsE D C) (k : AnsE D C') : C = C' := by
  obtain ⟨u, Eu, v, P, E, K, V, P1, E1, P2, E2, h1, h2, h3, h4, rfl⟩ := h
  obtain ⟨u', Eu', v', P', E', K', V', P1', E1', P2', E2', k1, k2, k3, k4, rfl⟩ := k
  rw [h2] at k2
  simp only [Prod.mk.injEq] at k2
  obtain ⟨rfl, rfl, rfl⟩ := k2
  rw [h3] at k3
  simp only [Prod.mk.injEq] at k3
  obtain ⟨rfl, rfl, rfl⟩ := k3
  have s := (h1.same k1).2
  have q := (h4.same k4).2.2
  rw [s.2.2.2.2.1, s.2.2.2.2.2.1, s.2.2.2.2.2.2, q.2.2.2.2.1, q.2.2.2.2.2.1, q.2.2.2.2.2.2]
theorem AnsE.same {D D' : EntD} {C : List (List Nat)} (s : EntD.Same D D') (h : AnsE D C) : AnsE D' C := by
  unfold AnsE at *
  rw [keyA_same s, packA_same s, s.2.2.2.2.1] at h
  exact h
/-- What Unpack tells at a place, in range or not. -/
def UAt (bs : List Nat) (z : Int) (D : EntD) (P E : Nat) : Prop := (∃ k K V P1 E1 P2 E2, z = ((k : Nat) : Int) ∧ k ≤ bs.length ∧ bytesR bs k 1048 = (K, P1, E1) ∧ bytesR bs P1 4096 = (V, P2, E2) ∧ UDet K V E1 P2 E2 D P E) ∨ ((z < 0 ∨ (bs.length : Int) < z) ∧ UDet [] [] 1 0 0 D P E)
theorem UAt.same {bs : List Nat} {z : Int} {D D' : EntD} {P P' E E' : Nat} (h : UAt bs z D P E) (k : UAt bs z D' P' E') : EntD.Same D D' := by
  rcases h with ⟨n, K, V, P1, E1, P2, E2, h0, h1, h2, h3, h4⟩ | ⟨h0, h4⟩ <;> rcases k with ⟨n', K', V', P1', E1', P2', E2', k0, k1, k2, k3, k4⟩ | ⟨k0, k4⟩
  · obtain rfl : n = n' := by omega
    rw [h2] at k2
    simp only [Prod.mk.injEq] at k2
    obtain ⟨rfl, rfl, rfl⟩ := k2
    rw [h3] at k3
    simp only [Prod.mk.injEq] at k3
    obtain ⟨rfl, rfl, rfl⟩ := k3
    exact (h4.same k4).2.2
  · omega
  · omega
  · exact (h4.same k4).2.2
theorem unpack_at {w : World} {m c : Nat} {a : Option Addr} {bs : List Nat} (z : Int) (hr : Rd w (.slice a m c) bs) (h47 : bs.length ≤ 140737488355328) :
    Calls Try.prog 28 #[.slice a m c, .int .i64 z] w fun r w' => ∃ D P E, r = .returned (.tuple #[.agg D.cells, .int .i64 ((P : Nat) : Int), .int .i64 ((E : Nat) : Int)]) ∧ UAt bs z D P E ∧ OwnV w' w.heap.size D ∧ Below w.heap.size w w' := by
  by_cases h : z < 0 ∨ (bs.length : Int) < z
  · refine (unpack_out hr h).mono ?_
    rintro r w' ⟨D, P, E, rfl, u, o, b⟩
    exact ⟨D, P, E, rfl, .inr ⟨h, u⟩, o, b⟩
  · obtain ⟨k, rfl⟩ : ∃ k : Nat, z = (k : Int) := ⟨z.toNat, by omega⟩
    refine (unpack_own (k := k) hr (by omega) h47 rfl rfl).mono ?_
    rintro r w' ⟨D, P, E, rfl, u, o, b⟩
    exact ⟨D, P, E, rfl, .inl ⟨k, _, _, _, _, _, _, rfl, by omega, rfl, rfl, u⟩, o, b⟩
/-- What the calls answer of bytes: six byte strings. -/
def AnsB (bs : List Nat) (z : Int) (C : List (List Nat)) : Prop := ∃ x Ex y P E, Det bs x Ex ∧ UAt bs z y P E ∧ C = [x.row, x.qual, x.val, y.row, y.qual, y.val]
theorem AnsB.one {bs : List Nat} {z : Int} {C C' : List (List Nat)} (h : AnsB bs z C) (k : AnsB bs z C') : C = C' := by
  obtain ⟨x, Ex, y, P, E, h1, h2, rfl⟩ := h
  obtain ⟨x', Ex', y', P', E', k1, k2, rfl⟩ := k
  have s := (h1.same k1).2
  have q := h2.same k2
  rw [s.2.2.2.2.1, s.2.2.2.2.2.1, s.2.2.2.2.2.2, q.2.2.2.2.1, q.2.2.2.2.2.1, q.2.2.2.2.2.2]
/-- .. and of a round: 26. -/
def Ans (a b : EntD) (bs : List Nat) (z : Int) (C : List (List Nat)) : Prop := ∃ C1 C2 C3, AnsE a C1 ∧ AnsE b C2 ∧ AnsB bs z C3 ∧ C = C1 ++ C2 ++ C3
theorem Ans.one {a b : EntD} {bs : List Nat} {z : Int} {C C' : List (List Nat)} (h : Ans a b bs z C) (k : Ans a b bs z C') : C = C' := by
  obtain ⟨C1, C2, C3, h1, h2, h3, rfl⟩ := h
  obtain ⟨D1, D2, D3, k1, k2, k3, rfl⟩ := k
  rw [h1.one k1, h2.one k2, h3.one k3]
theorem AnsE.len {D : EntD} {C : List (List Nat)} (h : AnsE D C) : C.length = 10 := by
  obtain ⟨u, Eu, v, P, E, K, V, P1, E1, P2, E2, h1, h2, h3, h4, rfl⟩ := h
  rfl
theorem AnsB.len {bs : List Nat} {z : Int} {C : List (List Nat)} (h : AnsB bs z C) : C.length = 6 := by
  obtain ⟨x, Ex, y, P, E, h1, h2, rfl⟩ := h
  rfl
theorem Ans.len {a b : EntD} {bs : List Nat} {z : Int} {C : List (List Nat)} (h : Ans a b bs z C) : C.length = 26 := by
  obtain ⟨C1, C2, C3, h1, h2, h3, rfl⟩ := h
  simp [h1.len, h2.len, h3.len]
theorem OwnE.ownV {w : World} {b : Nat} {D : EntD} (h : OwnE w b D) : OwnV w b D := by
  have h3 := h.vv
  refine ⟨h.br, h.bq, ⟨by rw [h3.2]; intro x hx; simp at hx, by rw [h3.2]; simp⟩, h.row, h.qual, ?_, h.apart, ?_, ?_⟩
  · rw [h3.1, h3.2]; exact own_nil _ _
  · rw [h3.1]; intro k _ hk; cases hk
  · rw [h3.1]; intro k _ hk; cases hk
end Go.Proofs.Ytjcpjpjccoeakaa

namespace Go.Proofs.Ytjcpjpjccoeakaa
open Go.RowKit
set_option linter.unusedVariables false

/-- A list of two entries. -/
def RowE (w : World) (g : Nat) (a b : EntD) : Prop := w.heap[g]? = some (.cells #[a.vr, .int .i64 a.fam, a.vq, .int .i64 a.ts, .int .i64 a.seq, .int .i64 a.kind, a.vv, b.vr, .int .i64 b.fam, b.vq, .int .i64 b.ts, .int .i64 b.seq, .int .i64 b.kind, b.vv] 35 (0, 0))
theorem RowE.later {w w' : World} {g : Nat} {a b : EntD} (h : RowE w g a b) (hb : Below w.heap.size w w') : RowE w' g a b := by
  unfold RowE at *
  rw [hb.block g (Array.getElem?_eq_some_iff.1 h).1]; exact h
theorem RowE.cells {w : World} {g t : Nat} {a b : EntD} (h : RowE w g a b) (ht : t < 2) : ∃ D, D = (if t = 0 then a else b) ∧ w.cell? ⟨g, t * 7, none⟩ = some D.vr ∧ w.cell? ⟨g, t * 7 + 1, none⟩ = some (.int .i64 D.fam) ∧ w.cell? ⟨g, t * 7 + 2, none⟩ = some D.vq ∧ w.cell? ⟨g, t * 7 + 3, none⟩ = some (.int .i64 D.ts) ∧ w.cell? ⟨g, t * 7 + 4, none⟩ = some (.int .i64 D.seq) ∧ w.cell? ⟨g, t * 7 + 5, none⟩ = some (.int .i64 D.kind) ∧ w.cell? ⟨g, t * 7 + 6, none⟩ = some D.vv := by
  unfold RowE at h
  refine ⟨_, rfl, ?_⟩
  match t, ht with
  | 0, _ => simp [World.cell?, h]
  | 1, _ => simp [World.cell?, h]
set_option maxRecDepth 100000 in
theorem wp_build_two {a : Act} {w wz wy : World} {K : Act → World → Prop} {Q : Exit → Act → World → Prop} {p q B B' : Nat} {D0 D1 : EntD} {d : Option Nat} {ps : String} {af : Array Edge} (h0 : LaidE wz B D0) (h1 : LaidE wy B' D1) (hp : a.tmps[p]?.getD undef = .agg D0.cells) (hq : a.tmps[q]?.getD undef = .agg D1.cells) (hk : ∀ w', RowE w' w.heap.size D0 D1 → Below w.heap.size w w' → K (a.put d (.slice (some ⟨w.heap.size, 0, none⟩) 2 2)) w') :
    Oper.wp Try.prog { dst := d, op := Op.buildSlice 77 2 #[(0, Operand.tmp p), (1, Operand.tmp q)], type := 77, pos := ps, after := af, guard := none } a w K Q := by
  obtain ⟨i1, i2, i3, e1⟩ := h0.1.form
  obtain ⟨j1, j2, j3, e2⟩ := h0.2.1.form
  obtain ⟨k1, k2, k3, e3⟩ := h0.2.2.form
  obtain ⟨i4, i5, i6, e4⟩ := h1.1.form
  obtain ⟨j4, j5, j6, e5⟩ := h1.2.1.form
  obtain ⟨k4, k5, k6, e6⟩ := h1.2.2.form
  clear h0 h1
  obtain ⟨vr, fam, vq, ts, seq, kind, vv, row, qual, val⟩ := D0
  obtain ⟨vr2, fam2, vq2, ts2, seq2, kind2, vv2, row2, qual2, val2⟩ := D1
  simp only at e1 e2 e3 e4 e5 e6
  subst e1 e2 e3 e4 e5 e6
  have hk2 := hk (w.alloc (.cells #[.slice i1 i2 i3, .int .i64 fam, .slice j1 j2 j3, .int .i64 ts, .int .i64 seq, .int .i64 kind, .slice k1 k2 k3, .slice i4 i5 i6, .int .i64 fam2, .slice j4 j5 j6, .int .i64 ts2, .int .i64 seq2, .int .i64 kind2, .slice k4 k5 k6] 35)) (by unfold RowE; exact heap_new w _) ((Below.refl _ _).alloc (Nat.le_refl _) _)
  clear hk
  simp only [EntD.cells] at hp hq
  go_simp
  exact hk2
set_option maxRecDepth 100000 in
theorem wp_assign_row {a : Act} {w : World} {K : Act → World → Prop} {Q : Exit → Act → World → Prop} {d : Option Nat} {ps : String} {af : Array Edge} {x n c : Nat} {ad : Option Addr} (hx : a.tmps[x]?.getD undef = .slice ad n c) (h : K (a.put d (.slice ad n c)) w) :
    Oper.wp Try.prog { dst := d, op := Op.assign (Operand.tmp x), type := 77, pos := ps, after := af, guard := none } a w K Q := by
  go_simp
  exact h
def lentOps : Array Oper := #[{ dst := some 54, op := Op.load 35 (Operand.tmp 4), type := 35, pos := "again.go:162", after := #[], guard := none }, { dst := some 55, op := Op.call { callee := Callee.value (Operand.func 19), args := #[Operand.tmp 54], argTypes := #[35] }, type := 35, pos := "again.go:162", after := #[{ on := 0, ground := Ground.data }], guard := none }, { dst := some 56, op := Op.load 35 (Operand.tmp 5), type := 35, pos := "again.go:162", after := #[], guard := none }, { dst := some 57, op := Op.call { callee := Callee.value (Operand.func 19), args := #[Operand.tmp 56], argTypes := #[35] }, type := 35, pos := "again.go:162", after := #[{ on := 2, ground := Ground.data }, { on := 1, ground := Ground.chain }], guard := none }, { dst := some 58, op := Op.buildSlice 77 2 #[(0, Operand.tmp 55), (1, Operand.tmp 57)], type := 77, pos := "again.go:162", after := #[{ on := 1, ground := Ground.data }, { on := 3, ground := Ground.data }], guard := none }, { dst := some 13, op := Op.assign (Operand.tmp 58), type := 77, pos := "again.go:162", after := #[{ on := 4, ground := Ground.data }, { on := 3, ground := Ground.chain }, { on := 0, ground := Ground.phase }, { on := 1, ground := Ground.phase }, { on := 2, ground := Ground.phase }, { on := 3, ground := Ground.phase }, { on := 4, ground := Ground.phase }], guard := none }]
def lentAct (s0 s1 s2 s3 s4 s5 s6 s7 s8 s9 s10 s11 s12 s13 s14 s15 s16 s17 s18 s19 s20 s21 s22 s23 s24 s25 s26 s27 s28 s29 s30 s31 s32 s33 s34 s35 s36 s37 s38 s39 s40 s41 s42 s43 s44 s45 s46 s47 s48 s49 s50 s51 s52 s53 s54 s55 s56 s57 s58 s59 s60 s61 s62 s63 s64 s65 s66 s67 s68 s69 s70 s71 s72 s73 s74 s75 s76 s77 s78 s79 s80 s81 s82 s83 s84 s85 s86 s87 s88 s89 s90 s91 s92 s93 s94 s95 s96 s97 s98 s99 s100 s101 s102 s103 s104 s105 s106 s107 s108 s109 s110 s111 s112 s113 s114 s115 s116 s117 s118 s119 s120 s121 s122 s123 s124 s125 s126 s127 s128 s129 s130 s131 s132 s133 s134 s135 s136 s137 s138 s139 s140 s141 s142 s143 s144 s145 s146 s147 s148 s149 s150 s151 s152 s153 s154 s155 s156 s157 s158 s159 s160 s161 s162 s163 s164 s165 s166 s167 s168 s169 s170 s171 s172 s173 s174 s175 s176 s177 s178 s179 s180 s181 s182 s183 s184 s185 s186 s187 s188 s189 : Value) : Act := ⟨#[s0, s1, s2, s3, s4, s5, s6, s7, s8, s9, s10, s11, s12, s13, s14, s15, s16, s17, s18, s19, s20, s21, s22, s23, s24, s25, s26, s27, s28, s29, s30, s31, s32, s33, s34, s35, s36, s37, s38, s39, s40, s41, s42, s43, s44, s45, s46, s47, s48, s49, s50, s51, s52, s53, s54, s55, s56, s57, s58, s59, s60, s61, s62, s63, s64, s65, s66, s67, s68, s69, s70, s71, s72, s73, s74, s75, s76, s77, s78, s79, s80, s81, s82, s83, s84, s85, s86, s87, s88, s89, s90, s91, s92, s93, s94, s95, s96, s97, s98, s99, s100, s101, s102, s103, s104, s105, s106, s107, s108, s109, s110, s111, s112, s113, s114, s115, s116, s117, s118, s119, s120, s121, s122, s123, s124, s125, s126, s127, s128, s129, s130, s131, s132, s133, s134, s135, s136, s137, s138, s139, s140, s141, s142, s143, s144, s145, s146, s147, s148, s149, s150, s151, s152, s153, s154, s155, s156, s157, s158, s159, s160, s161, s162, s163, s164, s165, s166, s167, s168, s169, s170, s171, s172, s173, s174, s175, s176, s177, s178, s179, s180, s181, s182, s183, s184, s185, s186, s187, s188, s189], []⟩

set_option maxRecDepth 100000 in
set_option maxHeartbeats 8000000 in
theorem lent13_region {a b : EntD} {qa qb : Nat} {X : World} (ha : EBox X qa a) (ka : EntD.Ok X a) (hb : EBox X qb b) (kb : EntD.Ok X b) {s0 s1 s2 s3 s6 s7 s8 s9 s10 s11 s12 s13 s14 s15 s16 s17 s18 s19 s20 s21 s22 s23 s24 s25 s26 s27 s28 s29 s30 s31 s32 s33 s34 s35 s36 s37 s38 s39 s40 s41 s42 s43 s44 s45 s46 s47 s48 s49 s50 s51 s52 s53 s54 s55 s56 s57 s58 s59 s60 s61 s62 s63 s64 s65 s66 s67 s68 s69 s70 s71 s72 s73 s74 s75 s76 s77 s78 s79 s80 s81 s82 s83 s84 s85 s86 s87 s88 s89 s90 s91 s92 s93 s94 s95 s96 s97 s98 s99 s100 s101 s102 s103 s104 s105 s106 s107 s108 s109 s110 s111 s112 s113 s114 s115 s116 s117 s118 s119 s120 s121 s122 s123 s124 s125 s126 s127 s128 s129 s130 s131 s132 s133 s134 s135 s136 s137 s138 s139 s140 s141 s142 s143 s144 s145 s146 s147 s148 s149 s150 s151 s152 s153 s154 s155 s156 s157 s158 s159 s160 s161 s162 s163 s164 s165 s166 s167 s168 s169 s170 s171 s172 s173 s174 s175 s176 s177 s178 s179 s180 s181 s182 s183 s184 s185 s186 s187 s188 s189 : Value} (Q : Exit → Act → World → Prop)
    (hQ : Hid (∀ (gl : Nat) (D0 D1 : EntD) (wF : World), RowE wF gl D0 D1 → LaidE wF X.heap.size D0 → LaidE wF X.heap.size D1 → EntD.Same D0 a.cut → EntD.Same D1 b.cut → Below X.heap.size X wF → Q .normal (lentAct s0 s1 s2 s3 (.pointer (some ⟨qa, 0, none⟩)) (.pointer (some ⟨qb, 0, none⟩)) s6 s7 s8 s9 s10 s11 s12 (.slice (some ⟨gl, 0, none⟩) 2 2) s14 s15 s16 s17 s18 s19 s20 s21 s22 s23 s24 s25 s26 s27 s28 s29 s30 s31 s32 s33 s34 s35 s36 s37 s38 s39 s40 s41 s42 s43 s44 s45 s46 s47 s48 s49 s50 s51 s52 s53 (.agg a.cells) (.agg D0.cells) (.agg b.cells) (.agg D1.cells) (.slice (some ⟨gl, 0, none⟩) 2 2) s59 s60 s61 s62 s63 s64 s65 s66 s67 s68 s69 s70 s71 s72 s73 s74 s75 s76 s77 s78 s79 s80 s81 s82 s83 s84 s85 s86 s87 s88 s89 s90 s91 s92 s93 s94 s95 s96 s97 s98 s99 s100 s101 s102 s103 s104 s105 s106 s107 s108 s109 s110 s111 s112 s113 s114 s115 s116 s117 s118 s119 s120 s121 s122 s123 s124 s125 s126 s127 s128 s129 s130 s131 s132 s133 s134 s135 s136 s137 s138 s139 s140 s141 s142 s143 s144 s145 s146 s147 s148 s149 s150 s151 s152 s153 s154 s155 s156 s157 s158 s159 s160 s161 s162 s163 s164 s165 s166 s167 s168 s169 s170 s171 s172 s173 s174 s175 s176 s177 s178 s179 s180 s181 s182 s183 s184 s185 s186 s187 s188 s189) wF)) :
    Code.wp Try.prog (Code.region 13 lentOps true) Q (lentAct s0 s1 s2 s3 (.pointer (some ⟨qa, 0, none⟩)) (.pointer (some ⟨qb, 0, none⟩)) s6 s7 s8 s9 s10 s11 s12 s13 s14 s15 s16 s17 s18 s19 s20 s21 s22 s23 s24 s25 s26 s27 s28 s29 s30 s31 s32 s33 s34 s35 s36 s37 s38 s39 s40 s41 s42 s43 s44 s45 s46 s47 s48 s49 s50 s51 s52 s53 s54 s55 s56 s57 s58 s59 s60 s61 s62 s63 s64 s65 s66 s67 s68 s69 s70 s71 s72 s73 s74 s75 s76 s77 s78 s79 s80 s81 s82 s83 s84 s85 s86 s87 s88 s89 s90 s91 s92 s93 s94 s95 s96 s97 s98 s99 s100 s101 s102 s103 s104 s105 s106 s107 s108 s109 s110 s111 s112 s113 s114 s115 s116 s117 s118 s119 s120 s121 s122 s123 s124 s125 s126 s127 s128 s129 s130 s131 s132 s133 s134 s135 s136 s137 s138 s139 s140 s141 s142 s143 s144 s145 s146 s147 s148 s149 s150 s151 s152 s153 s154 s155 s156 s157 s158 s159 s160 s161 s162 s163 s164 s165 s166 s167 s168 s169 s170 s171 s172 s173 s174 s175 s176 s177 s178 s179 s180 s181 s182 s183 s184 s185 s186 s187 s188 s189) X := by
  have XD : Below X.heap.size X X.drew := (Below.refl _ _).drew
  have HK := Lib.hid (And.intro (ka.later XD) (kb.later XD))
  have HE : Hid (EBox X.drew qa a ∧ EBox X.drew qb b) := ⟨ha.later XD, hb.later XD⟩
  clear ha ka hb kb
  refine wp_region_noPanic ?_
  refine wp_region_held_drew (S := (fun wx => EBox wx qa a ∧ EBox wx qb b)) (by kernel_rfl) HE.out (fun hS => ?_)
  refine wpAnyH_take (i := 0) (oi := { dst := some 54, op := Op.load 35 (Operand.tmp 4), type := 35, pos := "again.go:162", after := #[], guard := none }) (v := (.agg a.cells)) rfl (by kernel_rfl) (by kernel_rfl) (by kernel_rfl) (fun _ _ _ h => h) (Or.inl ⟨by rfl, fun w hw => load_entry hw.1 rfl⟩) hS ?_
  refine wpAnyH_take (i := 2) (oi := { dst := some 56, op := Op.load 35 (Operand.tmp 5), type := 35, pos := "again.go:162", after := #[], guard := none }) (v := (.agg b.cells)) rfl (by kernel_rfl) (by kernel_rfl) (by kernel_rfl) (fun _ _ _ h => h) (Or.inl ⟨by rfl, fun w hw => load_entry hw.2 rfl⟩) hS ?_
  have st : wpAnyH Try.prog .any lentOps (NoPanic Q) (fun wx => EBox wx qa a ∧ EBox wx qb b) 4 #[true, false, true, false, false, false] (lentAct s0 s1 s2 s3 (.pointer (some ⟨qa, 0, none⟩)) (.pointer (some ⟨qb, 0, none⟩)) s6 s7 s8 s9 s10 s11 s12 s13 s14 s15 s16 s17 s18 s19 s20 s21 s22 s23 s24 s25 s26 s27 s28 s29 s30 s31 s32 s33 s34 s35 s36 s37 s38 s39 s40 s41 s42 s43 s44 s45 s46 s47 s48 s49 s50 s51 s52 s53 (.agg a.cells) s55 (.agg b.cells) s57 s58 s59 s60 s61 s62 s63 s64 s65 s66 s67 s68 s69 s70 s71 s72 s73 s74 s75 s76 s77 s78 s79 s80 s81 s82 s83 s84 s85 s86 s87 s88 s89 s90 s91 s92 s93 s94 s95 s96 s97 s98 s99 s100 s101 s102 s103 s104 s105 s106 s107 s108 s109 s110 s111 s112 s113 s114 s115 s116 s117 s118 s119 s120 s121 s122 s123 s124 s125 s126 s127 s128 s129 s130 s131 s132 s133 s134 s135 s136 s137 s138 s139 s140 s141 s142 s143 s144 s145 s146 s147 s148 s149 s150 s151 s152 s153 s154 s155 s156 s157 s158 s159 s160 s161 s162 s163 s164 s165 s166 s167 s168 s169 s170 s171 s172 s173 s174 s175 s176 s177 s178 s179 s180 s181 s182 s183 s184 s185 s186 s187 s188 s189) X.drew := by
    refine wpAnyH_ready (rs := [1]) (by kernel_rfl) (by simp) ?_
    refine AllReadyH.cons (o := { dst := some 55, op := Op.call { callee := Callee.value (Operand.func 19), args := #[Operand.tmp 54], argTypes := #[35] }, type := 35, pos := "again.go:162", after := #[{ on := 0, ground := Ground.data }], guard := none }) rfl (fun K hK => ?_) AllReadyH.nil
    rw [if_pos (by rfl)]
    refine wp_call_entry (entry_any HK.out.1) rfl ?_
    rintro r w1 ⟨D0, rfl, sm0, l0, b0⟩
    refine ⟨_, rfl, hK.out _ _ ⟨HE.out.1.later b0, HE.out.2.later b0⟩ (fun hS1 => ?_)⟩
    have st1 : wpAnyH Try.prog .any lentOps (NoPanic Q) (fun wx => EBox wx qa a ∧ EBox wx qb b) 3 #[true, true, true, false, false, false] (lentAct s0 s1 s2 s3 (.pointer (some ⟨qa, 0, none⟩)) (.pointer (some ⟨qb, 0, none⟩)) s6 s7 s8 s9 s10 s11 s12 s13 s14 s15 s16 s17 s18 s19 s20 s21 s22 s23 s24 s25 s26 s27 s28 s29 s30 s31 s32 s33 s34 s35 s36 s37 s38 s39 s40 s41 s42 s43 s44 s45 s46 s47 s48 s49 s50 s51 s52 s53 (.agg a.cells) (.agg D0.cells) (.agg b.cells) s57 s58 s59 s60 s61 s62 s63 s64 s65 s66 s67 s68 s69 s70 s71 s72 s73 s74 s75 s76 s77 s78 s79 s80 s81 s82 s83 s84 s85 s86 s87 s88 s89 s90 s91 s92 s93 s94 s95 s96 s97 s98 s99 s100 s101 s102 s103 s104 s105 s106 s107 s108 s109 s110 s111 s112 s113 s114 s115 s116 s117 s118 s119 s120 s121 s122 s123 s124 s125 s126 s127 s128 s129 s130 s131 s132 s133 s134 s135 s136 s137 s138 s139 s140 s141 s142 s143 s144 s145 s146 s147 s148 s149 s150 s151 s152 s153 s154 s155 s156 s157 s158 s159 s160 s161 s162 s163 s164 s165 s166 s167 s168 s169 s170 s171 s172 s173 s174 s175 s176 s177 s178 s179 s180 s181 s182 s183 s184 s185 s186 s187 s188 s189) w1 := by
      refine wpAnyH_ready (rs := [3]) (by kernel_rfl) (by simp) ?_
      refine AllReadyH.cons (o := { dst := some 57, op := Op.call { callee := Callee.value (Operand.func 19), args := #[Operand.tmp 56], argTypes := #[35] }, type := 35, pos := "again.go:162", after := #[{ on := 2, ground := Ground.data }, { on := 1, ground := Ground.chain }], guard := none }) rfl (fun K1 hK1 => ?_) AllReadyH.nil
      rw [if_pos (by rfl)]
      refine wp_call_entry (entry_any (HK.out.2.later b0)) rfl ?_
      rintro r w2 ⟨D1, rfl, sm1, l1, b1⟩
      refine ⟨_, rfl, hK1.out _ _ ⟨hS1.1.later b1, hS1.2.later b1⟩ (fun hS2 => ?_)⟩
      have st2 : wpAnyH Try.prog .any lentOps (NoPanic Q) (fun wx => EBox wx qa a ∧ EBox wx qb b) 2 #[true, true, true, true, false, false] (lentAct s0 s1 s2 s3 (.pointer (some ⟨qa, 0, none⟩)) (.pointer (some ⟨qb, 0, none⟩)) s6 s7 s8 s9 s10 s11 s12 s13 s14 s15 s16 s17 s18 s19 s20 s21 s22 s23 s24 s25 s26 s27 s28 s29 s30 s31 s32 s33 s34 s35 s36 s37 s38 s39 s40 s41 s42 s43 s44 s45 s46 s47 s48 s49 s50 s51 s52 s53 (.agg a.cells) (.agg D0.cells) (.agg b.cells) (.agg D1.cells) s58 s59 s60 s61 s62 s63 s64 s65 s66 s67 s68 s69 s70 s71 s72 s73 s74 s75 s76 s77 s78 s79 s80 s81 s82 s83 s84 s85 s86 s87 s88 s89 s90 s91 s92 s93 s94 s95 s96 s97 s98 s99 s100 s101 s102 s103 s104 s105 s106 s107 s108 s109 s110 s111 s112 s113 s114 s115 s116 s117 s118 s119 s120 s121 s122 s123 s124 s125 s126 s127 s128 s129 s130 s131 s132 s133 s134 s135 s136 s137 s138 s139 s140 s141 s142 s143 s144 s145 s146 s147 s148 s149 s150 s151 s152 s153 s154 s155 s156 s157 s158 s159 s160 s161 s162 s163 s164 s165 s166 s167 s168 s169 s170 s171 s172 s173 s174 s175 s176 s177 s178 s179 s180 s181 s182 s183 s184 s185 s186 s187 s188 s189) w2 := by
        refine wpAnyH_ready (rs := [4]) (by kernel_rfl) (by simp) ?_
        refine AllReadyH.cons (o := { dst := some 58, op := Op.buildSlice 77 2 #[(0, Operand.tmp 55), (1, Operand.tmp 57)], type := 77, pos := "again.go:162", after := #[{ on := 1, ground := Ground.data }, { on := 3, ground := Ground.data }], guard := none }) rfl (fun K2 hK2 => ?_) AllReadyH.nil
        rw [if_pos (by rfl)]
        refine wp_build_two l0 l1 rfl rfl ?_
        intro w3 r3 b3
        refine hK2.out _ _ ⟨hS2.1.later b3, hS2.2.later b3⟩ (fun hS3 => ?_)
        have st3 : wpAnyH Try.prog .any lentOps (NoPanic Q) (fun wx => EBox wx qa a ∧ EBox wx qb b) 1 #[true, true, true, true, true, false] (lentAct s0 s1 s2 s3 (.pointer (some ⟨qa, 0, none⟩)) (.pointer (some ⟨qb, 0, none⟩)) s6 s7 s8 s9 s10 s11 s12 s13 s14 s15 s16 s17 s18 s19 s20 s21 s22 s23 s24 s25 s26 s27 s28 s29 s30 s31 s32 s33 s34 s35 s36 s37 s38 s39 s40 s41 s42 s43 s44 s45 s46 s47 s48 s49 s50 s51 s52 s53 (.agg a.cells) (.agg D0.cells) (.agg b.cells) (.agg D1.cells) (.slice (some ⟨w2.heap.size, 0, none⟩) 2 2) s59 s60 s61 s62 s63 s64 s65 s66 s67 s68 s69 s70 s71 s72 s73 s74 s75 s76 s77 s78 s79 s80 s81 s82 s83 s84 s85 s86 s87 s88 s89 s90 s91 s92 s93 s94 s95 s96 s97 s98 s99 s100 s101 s102 s103 s104 s105 s106 s107 s108 s109 s110 s111 s112 s113 s114 s115 s116 s117 s118 s119 s120 s121 s122 s123 s124 s125 s126 s127 s128 s129 s130 s131 s132 s133 s134 s135 s136 s137 s138 s139 s140 s141 s142 s143 s144 s145 s146 s147 s148 s149 s150 s151 s152 s153 s154 s155 s156 s157 s158 s159 s160 s161 s162 s163 s164 s165 s166 s167 s168 s169 s170 s171 s172 s173 s174 s175 s176 s177 s178 s179 s180 s181 s182 s183 s184 s185 s186 s187 s188 s189) w3 := by
          refine wpAnyH_ready (rs := [5]) (by kernel_rfl) (by simp) ?_
          refine AllReadyH.cons (o := { dst := some 13, op := Op.assign (Operand.tmp 58), type := 77, pos := "again.go:162", after := #[{ on := 4, ground := Ground.data }, { on := 3, ground := Ground.chain }, { on := 0, ground := Ground.phase }, { on := 1, ground := Ground.phase }, { on := 2, ground := Ground.phase }, { on := 3, ground := Ground.phase }, { on := 4, ground := Ground.phase }], guard := none }) rfl (fun K3 hK3 => ?_) AllReadyH.nil
          rw [if_pos (by rfl)]
          refine wp_assign_row rfl ?_
          refine hK3.out _ _ hS3 (fun hS4 => ?_)
          refine wpAnyH_done (by kernel_rfl) ?_ _
          have h0 := hS1
          have bb := b1.trans (b3.mono b1.size)
          exact NoPanic.normal (hQ.out w2.heap.size D0 D1 w3 r3 ((l0.later bb)) ((l1.later b3).mono b0.size) sm0 sm1 (XD.trans (b0.trans (bb.mono b0.size))))
        exact st3
      exact st2
    exact st1
  exact st

end Go.Proofs.Ytjcpjpjccoeakaa

namespace Go.Proofs.Ytjcpjpjccoeakaa
open Go.RowKit
set_option linter.unusedVariables false

/-- A book's copies can be read. -/
def Vw (w : World) (g n : Nat) (its : List Item) : Prop := ∃ B aW cW vL, KBox w g vL (.slice aW n cW) ∧ RowS w B (.slice aW n cW) n (its.map Item.k) ∧ ∀ p ∈ its, Own w B p.k p.xs.length p.xs ∧ Bys p.xs ∧ p.xs.length ≤ 100000
theorem Bk.vw {w : World} {B g n : Nat} {its : List Item} (h : Bk w B g n its) : Vw w g n its := by
  obtain ⟨⟨aL, cL, aW, cW, h1, h2, h3, h4⟩, h5, h6⟩ := h
  exact ⟨B, aW, cW, _, h1, h3, fun p hp => (h5 p hp).2⟩
theorem Bs.vw {w : World} {B g n : Nat} {its : List Item} (h : Bs w B g n its) : Vw w g n its := by
  obtain ⟨⟨aL, cL, aW, cW, h1, h2, h3⟩, h5, h6⟩ := h
  exact ⟨B, aW, cW, _, h1, h3, fun p hp => h5 p hp⟩
/-- How far a round has come. -/
def Part (a b : EntD) (t : Nat) (C : List (List Nat)) : Prop := (t = 0 ∧ C = []) ∨ (t = 1 ∧ AnsE a C) ∨ (t = 2 ∧ ∃ C1 C2, AnsE a C1 ∧ AnsE b C2 ∧ C = C1 ++ C2)
theorem Part.step {a b : EntD} {t : Nat} {C C' : List (List Nat)} (h : Part a b t C) (ht : t < 2) (k : AnsE (if t = 0 then a else b) C') : Part a b (t + 1) (C ++ C') := by
  rcases h with ⟨rfl, rfl⟩ | ⟨rfl, h⟩ | ⟨rfl, h⟩
  · exact .inr (.inl ⟨rfl, by simpa using k⟩)
  · exact .inr (.inr ⟨rfl, C, C', h, by simpa using k, rfl⟩)
  · omega
/-- What stands within a round. -/
structure Li (wc wr : World) (w0 g gl n : Nat) (a b D0 D1 : EntD) (its : List Item) : Prop where
  ea : EBox wr w0 a
  eb : EBox wr (w0 + 1) b
  bel : Below g wc wr
  bk : Bk wr g g n its
  row : RowE wr gl D0 D1
  l0 : LaidE wr w0 D0
  l1 : LaidE wr w0 D1
  gs : g < wr.heap.size
theorem Li.later {wc wr wx : World} {w0 g gl n : Nat} {a b D0 D1 : EntD} {its : List Item} (h : Li wc wr w0 g gl n a b D0 D1 its) (k : Below wr.heap.size wr wx) : Li wc wx w0 g gl n a b D0 D1 its :=
  ⟨h.ea.later k, h.eb.later k, h.bel.trans (k.mono (by have := h.gs; omega)), h.bk.later k, h.row.later k, h.l0.later k, h.l1.later k, by have := h.gs; have := k.size; omega⟩
theorem FrT.laid {w w' : World} {B : Nat} {u : Value} {bs : List Nat} (h : FrT w w') (k : Laid w B u bs) : Laid w' B u bs := by
  obtain ⟨g, c, h1, h2, h3, h4⟩ := k
  exact ⟨g, c, h1, h2, h3, h.own h4⟩
theorem FrT.laidE {w w' : World} {B : Nat} {D : EntD} (h : FrT w w') (k : LaidE w B D) : LaidE w' B D := ⟨h.laid k.1, h.laid k.2.1, h.laid k.2.2⟩
theorem FrT.rowE {w w' : World} {q : Nat} {a b : EntD} (h : FrT w w') (k : RowE w q a b) : RowE w' q a b := by
  unfold RowE at *
  rw [h q _ _ _ k (by decide) (by decide)]
  exact k
theorem Li.kept {wc wr wx : World} {w0 g gl n n' : Nat} {a b D0 D1 : EntD} {its its' : List Item} (h : Li wc wr w0 g gl n a b D0 D1 its) (k : FrT wr wx) (hb : Below g wr wx) (hk : Bk wx g g n' its') : Li wc wx w0 g gl n' a b D0 D1 its' :=
  ⟨k.ebox h.ea, k.ebox h.eb, h.bel.trans hb, hk, k.rowE h.row, k.laidE h.l0, k.laidE h.l1, by have := h.gs; have := hb.size; omega⟩
/-- What stands between two rounds. -/
structure Lt (w wr : World) (a b : EntD) (r0 : List Nat) (z : Int) (t : Nat) (k was : Value) : Prop where
  ea : EBox wr w.heap.size a
  eb : EBox wr (w.heap.size + 1) b
  bel : Below w.heap.size w wr
  st : ∃ g its, k = .pointer (some ⟨g, 0, none⟩) ∧ w.heap.size + 2 ≤ g ∧ g < wr.heap.size ∧ Bk wr g g its.length its ∧
    ((t = 0 ∧ was = .pointer none ∧ its = []) ∨ (t = 1 ∧ was = .pointer none ∧ Ans a.cut b.cut r0 z (its.map Item.xs)) ∨ (t = 2 ∧ was = .pointer none ∧ ∃ C, Ans a.cut b.cut r0 z C ∧ its.map Item.xs = C ++ C) ∨
     (t = 3 ∧ ∃ g0 its0 C, was = .pointer (some ⟨g0, 0, none⟩) ∧ (∀ wx, Below g wr wx → Bs wx g0 g0 its0.length its0) ∧ its0.map Item.xs = C ++ C ∧ Ans a.cut b.cut r0 z C ∧ its.map Item.xs = C))
end Go.Proofs.Ytjcpjpjccoeakaa
